/-
  Texts of one proof, in their order. No condition.
-/
import Derived.Test.YtjhnmikciejekaaGreatPqPke
set_option linter.unusedSectionVars false
set_option linter.unusedSimpArgs false
set_option linter.unusedVariables false
namespace Go.Proofs.YtjhnmikciejekaaGreat.Deep
open Go.RowKit
set_option linter.unusedVariables false
set_option linter.unusedSimpArgs false
variable {z : Tk}
theorem gd_leaf (k li co m : Int) (y : List UInt8) (n : ByteArray) : gdE (.mk k li co m y n [] [] []) := by unfold gdE gdEs gdPs; simp
theorem gd_node {k li co m : Int} {y : List UInt8} {n : ByteArray} {ks : List Ex} (h : (∀ a ∈ ks, gdE a) ∧ ks.length ≤ 1000000) : gdE (.mk k li co m y n ks [] []) := by
  unfold gdE
  exact ⟨h.2, by simp, rfl, gdEs_all _ h.1, by unfold gdPs; trivial, by unfold gdEs; trivial⟩
theorem gd_two {k li co m : Int} {y : List UInt8} {n : ByteArray} {v w : Ex} (hv : gdE v) (hw : gdE w) : gdE (.mk k li co m y n [v, w] [] []) := gd_node ⟨by intro a ha; simp at ha; rcases ha with rfl | rfl <;> assumption, by simp⟩
theorem gd_three {k li co m : Int} {y : List UInt8} {n : ByteArray} {u v w : Ex} (hu : gdE u) (hv : gdE v) (hw : gdE w) : gdE (.mk k li co m y n [u, v, w] [] []) := gd_node ⟨by intro a ha; simp at ha; rcases ha with rfl | rfl | rfl <;> assumption, by simp⟩
theorem gd_arms {k li co m : Int} {y : List UInt8} {n : ByteArray} {v : Ex} {rs : List (Pt × Ex)} (hv : gdE v) (h : (∀ a ∈ rs, gdP a.1 ∧ gdE a.2) ∧ rs.length ≤ 1000000) : gdE (.mk k li co m y n [v] (rs.map Prod.fst) (rs.map Prod.snd)) := by
  unfold gdE
  refine ⟨by simp, by simpa using h.2, by simp, by unfold gdEs gdEs; exact ⟨hv, trivial⟩, gdPs_all _ ?_, gdEs_all _ ?_⟩
  · intro a ha; obtain ⟨b, hb, rfl⟩ := List.mem_map.1 ha; exact (h.1 b hb).1
  · intro a ha; obtain ⟨b, hb, rfl⟩ := List.mem_map.1 ha; exact (h.1 b hb).2
section
variable {ex : Rd Ex} {pt : Rd Pt} (he : Good ex gdE) (hq : Good pt gdP)
include he
theorem behind_good (s : ByteArray) : Good (behindS z ex s) gdE := fun l b hl => by
  unfold behindS
  exact SatR.bind (SatR.of (mono_want _).good hl) (fun _ l1 b1 h1 _ => SatR.bind (SatR.of he h1) (fun v l2 b2 h2 hv => SatR.end' h2 hv))
theorem let_good : Good (letS z ex) gdE := fun l b hl => by
  unfold letS
  exact SatR.bind (SatR.of mono_take.good hl) (fun _ l1 b1 h1 _ => SatR.bind (SatR.of mono_low.good h1) (fun _ l2 b2 h2 _ => SatR.bind (SatR.of (behind_good he _) h2) (fun v l3 b3 h3 hv => SatR.bind (SatR.of (behind_good he _) h3) (fun w l4 b4 h4 hw => SatR.wholeE h4 (gd_two hv hw)))))
theorem cond_good : Good (condS z ex) gdE := fun l b hl => by
  unfold condS
  exact SatR.bind (SatR.of (behind_good he _) hl) (fun u l1 b1 h1 hu => SatR.bind (SatR.of (behind_good he _) h1) (fun v l3 b3 h3 hv => SatR.bind (SatR.of (behind_good he _) h3) (fun w l4 b4 h4 hw => SatR.wholeE h4 (gd_three hu hv hw))))
theorem loop_good : Good (loopS z ex) gdE := fun l b hl => by
  unfold loopS
  exact SatR.bind (SatR.of mono_take.good hl) (fun _ l1 b1 h1 _ => SatR.bind (SatR.of (mono_within _ _).good h1) (fun _ l2 b2 h2 _ => SatR.bind (SatR.of (mono_want _).good h2) (fun _ l2 b2 h2 _ => SatR.bind (SatR.of mono_low.good h2) (fun _ l2 b2 h2 _ => SatR.bind (SatR.of (behind_good he _) h2) (fun v l3 b3 h3 hv => SatR.bind (SatR.of (behind_good he _) h3) (fun w l4 b4 h4 hw => SatR.wholeE h4 (gd_two hv hw)))))))
theorem named_good : Good (namedS z ex) gdE := fun l b hl => by
  unfold namedS
  exact SatR.bind (SatR.of mono_take.good hl) (fun _ l1 b1 h1 _ => SatR.ite (SatR.end' h1 (gd_leaf _ _ _ _ _ _)) (SatR.ite SatR.err (SatR.bind (SatR.of (inside_good he _ _) h1) (fun ks l2 b2 h2 hv => SatR.ite (SatR.wholeE h2 (gd_node hv)) (SatR.wholeE h2 (gd_node hv))))))
theorem sev_good : Good (sevS z ex) gdE := fun l b hl => by
  unfold sevS
  exact SatR.bind (SatR.of (inside_good he _ _) hl) (fun ks l2 b2 h2 hv => SatR.ite (SatR.end' h2 (headD_mem hv.1 (gd_leaf _ _ _ _ _ _))) (SatR.wholeE h2 (gd_node hv)))
theorem atom_good : Good (atomS z ex) gdE := fun l b hl => by
  unfold atomS
  dsimp only
  refine SatR.ite (SatR.bind (SatR.of mono_number.good hl) (fun _ l1 b1 h1 _ => SatR.end' h1 (gd_leaf _ _ _ _ _ _))) ?_
  refine SatR.ite (SatR.bind (SatR.of mono_number.good hl) (fun _ l1 b1 h1 _ => SatR.end' h1 (gd_leaf _ _ _ _ _ _))) ?_
  refine SatR.ite (SatR.bind (SatR.of mono_take.good hl) (fun _ l1 b1 h1 _ => SatR.end' h1 (gd_leaf _ _ _ _ _ _))) ?_
  refine SatR.ite (SatR.bind (SatR.of mono_take.good hl) (fun _ l1 b1 h1 _ => SatR.end' h1 (gd_leaf _ _ _ _ _ _))) ?_
  refine SatR.ite (SatR.bind (SatR.of (named_good he) hl) (fun _ l1 b1 h1 hv => SatR.end' h1 hv)) ?_
  refine SatR.ite (SatR.bind (SatR.of mono_take.good hl) (fun _ l1 b1 h1 _ => SatR.bind (SatR.of (opt_good he) h1) (fun ks l2 b2 h2 hv => SatR.wholeE h2 (gd_node hv)))) ?_
  exact SatR.ite (SatR.bind (SatR.of (sev_good he) hl) (fun _ l1 b1 h1 hv => SatR.end' h1 hv)) SatR.err
theorem op_good (op : Int) {left : Ex} (hleft : gdE left) : Good (opS z ex op left) gdE := fun l b hl => by
  unfold opS
  exact SatR.bind (SatR.of mono_take.good hl) (fun _ l1 b1 h1 _ => SatR.bind (SatR.of he h1) (fun v l2 b2 h2 hv => SatR.wholeE h2 (gd_two hleft hv)))
theorem ch_good (opf : ByteArray → Int × Bool) : ∀ (f : Nat) (e : Ex), gdE e → Good (chS z opf ex f e) gdE
  | 0, e, h => fun l b hl => SatR.end' hl h
  | f + 1, e, h => fun l b hl => by
    unfold chS
    exact SatR.ite (SatR.end' hl h) (SatR.bind (SatR.of (op_good he _ h) hl) (fun v l1 b1 h1 hv => SatR.of (ch_good opf f v hv) h1))
theorem chain_good (opf : ByteArray → Int × Bool) : Good (chainS z opf ex) gdE := fun l b hl => by
  unfold chainS
  exact SatR.bind (SatR.of he hl) (fun v l1 b1 h1 hv => SatR.of (ch_good he opf _ v hv) h1)
theorem prod_good : Good (prodS z ex) gdE := fun l b hl => by
  unfold prodS
  exact SatR.bind (SatR.of (chain_good (atom_good he) _) hl) (fun v l1 b1 h1 hv => SatR.end' h1 hv)
theorem sum_good : Good (sumS z ex) gdE := fun l b hl => by
  unfold sumS
  exact SatR.bind (SatR.of (chain_good (prod_good he) _) hl) (fun v l1 b1 h1 hv => SatR.end' h1 hv)
theorem cmp_good : Good (cmpS z ex) gdE := fun l b hl => by
  unfold cmpS
  exact SatR.bind (SatR.of (sum_good he) hl) (fun v l1 b1 h1 hv => SatR.ite (SatR.bind (SatR.of (op_good (sum_good he) _ hv) h1) (fun v l1 b1 h1 hv => SatR.end' h1 hv)) (SatR.end' h1 hv))
include hq
theorem arm_good : Good (armS z ex pt) (fun v => gdP v.1 ∧ gdE v.2) := fun l b hl => by
  unfold armS
  exact SatR.bind (SatR.of hq hl) (fun p l1 b1 h1 hp => SatR.bind (SatR.of (behind_good he _) h1) (fun v l2 b2 h2 hv => SatR.end' h2 ⟨hp, hv⟩))
theorem match_good : Good (matchS z ex pt) gdE := fun l b hl => by
  unfold matchS
  exact SatR.bind (SatR.of (behind_good he _) hl) (fun v l1 b1 h1 hv => SatR.bind (SatR.of (mono_want _).good h1) (fun _ l2 b2 h2 _ => SatR.bind (SatR.of (mono_skip _).good h2) (fun _ l2 b2 h2 _ => SatR.bind (SatR.of (lis_good (arm_good he hq) _ _) h2) (fun rs l3 b3 h3 hr => SatR.bind (SatR.of (mono_want _).good h3) (fun _ l4 b4 h4 _ => SatR.wholeE h4 (gd_arms hv hr))))))
theorem expr_good : Good (exprS z ex pt) gdE := fun l b hl => by
  unfold exprS
  dsimp only
  refine SatR.ite (SatR.bind (SatR.of (let_good he) hl) (fun _ l1 b1 h1 hv => SatR.end' h1 hv)) ?_
  refine SatR.ite (SatR.bind (SatR.of (cond_good he) hl) (fun _ l1 b1 h1 hv => SatR.end' h1 hv)) ?_
  refine SatR.ite (SatR.bind (SatR.of (match_good he hq) hl) (fun _ l1 b1 h1 hv => SatR.end' h1 hv)) ?_
  refine SatR.ite (SatR.bind (SatR.of (loop_good he) hl) (fun _ l1 b1 h1 hv => SatR.end' h1 hv)) ?_
  exact SatR.bind (SatR.of (cmp_good he) hl) (fun _ l1 b1 h1 hv => SatR.end' h1 hv)
end
theorem good_E : ∀ n, Good (pE z n) gdE
  | 0 => fun l b _ => SatR.err
  | n + 1 => expr_good (good_E n) (good_P n)
theorem ne_of_op {opf : ByteArray → Int × Bool} {l : List Tk} (hz : z.kind = 0) (h0 : (opf e0).2 = false) (h : (opf (textB z 6 l)).2 = true) : l ≠ [] := fun he => by
  subst he
  have : textB z 6 [] = e0 := by
    unfold textB hd
    have : (z.kind == 6) = false := by rw [hz]; rfl
    rw [this]; rfl
  rw [this, h0] at h; cases h
theorem opComp_e : (opComp e0).2 = false := by decide +kernel
theorem opSum_e : (opSum e0).2 = false := by decide +kernel
theorem opTim_e : (opTim e0).2 = false := by decide +kernel
theorem en_expr : Enters Tryz.prog 32 := enters_of Tryz.func32 (by kernel_rfl) rfl
theorem en_behind : Enters Tryz.prog 116 := enters_of Tryz.func116 (by kernel_rfl) rfl
theorem en_op : Enters Tryz.prog 126 := enters_of Tryz.func126 (by kernel_rfl) rfl
theorem en_chain : Enters Tryz.prog 166 := enters_of Tryz.func166 (by kernel_rfl) rfl
theorem en_sum : Enters Tryz.prog 123 := enters_of Tryz.func123 (by kernel_rfl) rfl
section
variable {ex : Rd Ex} {pt : Rd Pt} {n : Nat} (hz : z.kind = 0) (hn : n ≤ 100000)
  (hp : ∀ l b, l.length < n → CT z 32 [.ptr 0 0] (fun v => .agg (exP v)) (ex l b) l b) (hm : Mono ex) (hg : Good ex gdE)
  (hpp : ∀ l b, l.length < n → CT z 165 [.ptr 0 0] (fun v => .agg (ptP v)) (pt l b) l b) (hmp : Mono pt) (hgp : Good pt gdP)
include hz hn hp hm hg
theorem behind_c (s : ByteArray) (hs : eqB e0 s = false) (l : List Tk) (b : Bool) (hl : l.length ≤ n) : CT z 116 [.ptr 0 0, .con (.string s)] (fun v => .agg (exP v)) (behindS z ex s l b) l b := by
  refine a116 _ _ _ _ _ ?_
  unfold p116
  refine spU (want_c hz s hs l b) en_want (S := behindS z ex s l b) rfl ?_
  intro l1 b1 hx hS
  have h1 := want_lt hz hs hx
  refine spE (hp l1 b1 (by omega)) en_expr hS ?_
  intro k0 li co m y n0 ks ps bs l2 b2 hx2 hS
  exact endS hS rfl
theorem let_c (l : List Tk) (b : Bool) (hl : l.length ≤ n) (hl0 : l ≠ []) : CT z 72 [.ptr 0 0] (fun v => .agg (exP v)) (letS z ex l b) l b := by
  refine a72 _ _ _ _ ?_
  unfold p72
  refine spK (take_c l b hl0) en_take (S := letS z ex l b) rfl ?_
  intro k0 t m y li co l1 b1 hx hS
  have h1 := (take_lt hx hl0).1
  refine spS (low_c hz l1 b1) en_low hS ?_
  intro s l2 b2 hx2 hS
  have h2 := mono_low _ _ _ _ _ hx2
  refine spE (behind_c hz hn hp hm hg ⟨#[61]⟩ (by decide +kernel) l2 b2 (by omega)) en_behind hS ?_
  intro k1 li1 co1 m1 y1 n1 ks1 ps1 bs1 l3 b3 hx3 hS
  have h3 := mono_behind hm _ _ _ _ _ _ hx3
  have g3 := (behind_good hg _ l2 b2 (by omega) _ _ _ hx3).2
  refine spE (behind_c hz hn hp hm hg ⟨#[105, 110]⟩ (by decide +kernel) l3 b3 (by omega)) en_behind hS ?_
  intro k2 li2 co2 m2 y2 n2 ks2 ps2 bs2 l4 b4 hx4 hS
  have g4 := (behind_good hg _ l3 b3 (by omega) _ _ _ hx4).2
  refine whE (wholeExpr_c (.mk 6 li co 0 [] s [.mk k1 li1 co1 m1 y1 n1 ks1 ps1 bs1, .mk k2 li2 co2 m2 y2 n2 ks2 ps2 bs2] [] []) (gd_two g3 g4)) en_wholeExpr hS ?_
  intro k3 li3 co3 m3 y3 n3 ks3 ps3 bs3 hx5 hS
  exact endS hS rfl
theorem cond_c (l : List Tk) (b : Bool) (hl : l.length ≤ n) : CT z 73 [.ptr 0 0] (fun v => .agg (exP v)) (condS z ex l b) l b := by
  refine a73 _ _ _ _ ?_
  unfold p73
  refine spNext ?_
  refine spE (behind_c hz hn hp hm hg ⟨#[105, 102]⟩ (by decide +kernel) l b hl) en_behind (S := condS z ex l b) rfl ?_
  intro k0 li0 co0 m0 y0 n0 ks0 ps0 bs0 l2 b2 hx2 hS
  have h2 := mono_behind hm _ _ _ _ _ _ hx2
  have g2 := (behind_good hg _ l b (by omega) _ _ _ hx2).2
  refine spE (behind_c hz hn hp hm hg ⟨#[116, 104, 101, 110]⟩ (by decide +kernel) l2 b2 (by omega)) en_behind hS ?_
  intro k1 li1 co1 m1 y1 n1 ks1 ps1 bs1 l3 b3 hx3 hS
  have h3 := mono_behind hm _ _ _ _ _ _ hx3
  have g3 := (behind_good hg _ l2 b2 (by omega) _ _ _ hx3).2
  refine spE (behind_c hz hn hp hm hg ⟨#[101, 108, 115, 101]⟩ (by decide +kernel) l3 b3 (by omega)) en_behind hS ?_
  intro k2 li2 co2 m2 y2 n2 ks2 ps2 bs2 l4 b4 hx4 hS
  have g4 := (behind_good hg _ l3 b3 (by omega) _ _ _ hx4).2
  refine whE (wholeExpr_c (.mk 7 _ _ 0 [] e0 [.mk k0 li0 co0 m0 y0 n0 ks0 ps0 bs0, .mk k1 li1 co1 m1 y1 n1 ks1 ps1 bs1, .mk k2 li2 co2 m2 y2 n2 ks2 ps2 bs2] [] []) (gd_three g2 g3 g4)) en_wholeExpr hS ?_
  intro k3 li3 co3 m3 y3 n3 ks3 ps3 bs3 hx5 hS
  exact endS hS rfl
theorem loop_c (l : List Tk) (b : Bool) (hl : l.length ≤ n) (hl0 : l ≠ []) : CT z 75 [.ptr 0 0] (fun v => .agg (exP v)) (loopS z ex l b) l b := by
  refine a75 _ _ _ _ ?_
  unfold p75
  refine spK (take_c l b hl0) en_take (S := loopS z ex l b) rfl ?_
  intro k0 t m y li co l1 b1 hx hS
  have h1 := (take_lt hx hl0).1
  refine spI (within_c hz 0 1000 l1 b1) en_within hS ?_
  intro tm l2 b2 hx2 hS
  have h2 := mono_within _ _ _ _ _ _ _ hx2
  refine spU (want_c hz ⟨#[119, 105, 116, 104]⟩ (by decide +kernel) l2 b2) en_want hS ?_
  intro l3 b3 hx3 hS
  have h3 := want_lt hz (by decide +kernel) hx3
  refine spS (low_c hz l3 b3) en_low hS ?_
  intro s l4 b4 hx4 hS
  have h4 := mono_low _ _ _ _ _ hx4
  refine spE (behind_c hz hn hp hm hg ⟨#[61]⟩ (by decide +kernel) l4 b4 (by omega)) en_behind hS ?_
  intro k1 li1 co1 m1 y1 n1 ks1 ps1 bs1 l5 b5 hx5 hS
  have h5 := mono_behind hm _ _ _ _ _ _ hx5
  have g5 := (behind_good hg _ l4 b4 (by omega) _ _ _ hx5).2
  refine spE (behind_c hz hn hp hm hg ⟨#[100, 111]⟩ (by decide +kernel) l5 b5 (by omega)) en_behind hS ?_
  intro k2 li2 co2 m2 y2 n2 ks2 ps2 bs2 l6 b6 hx6 hS
  have g6 := (behind_good hg _ l5 b5 (by omega) _ _ _ hx6).2
  refine whE (wholeExpr_c (.mk 10 li co tm [] s [.mk k1 li1 co1 m1 y1 n1 ks1 ps1 bs1, .mk k2 li2 co2 m2 y2 n2 ks2 ps2 bs2] [] []) (gd_two g5 g6)) en_wholeExpr hS ?_
  intro k3 li3 co3 m3 y3 n3 ks3 ps3 bs3 hx5 hS
  exact endS hS rfl
theorem named_c (l : List Tk) (b : Bool) (hl : l.length ≤ n) (hl0 : l ≠ []) : CT z 204 [.ptr 0 0] (fun v => .agg (exP v)) (namedS z ex l b) l b := by
  refine a204 _ _ _ _ ?_
  unfold p204
  refine spK (take_c l b hl0) en_take (S := namedS z ex l b) rfl ?_
  intro k0 t m y li co l1 b1 hx hS
  have h1 := (take_lt hx hl0).1
  refine spStands ?_
  refine brS hS (fun h hS => endS hS rfl) (fun h hS => ?_)
  refine ⟨_, call_p en_isType (isType_p t) rfl ?_⟩
  refine brS hS (fun h2 hS => thrS hS) (fun h2 hS => ?_)
  refine spL (insideE_c hz hn hp hm ⟨#[44]⟩ (by decide +kernel) 6 l1 b1 (by omega) (ne_of_st hz (by simpa using h) (by decide +kernel))) en_insideE hS ?_
  intro ks l2 b2 hx2 hS
  have hk := (inside_good hg _ _ l1 b1 (by omega) _ _ _ hx2).2
  refine ⟨_, _, call_p en_operator (operator_p t) rfl ?_⟩
  refine brS hS (fun h3 hS => ?_) (fun h3 hS => ?_)
  · refine whE (wholeExpr_c (.mk 9 li co (opName t).1 [] e0 ks [] []) (gd_node hk)) en_wholeExpr hS ?_
    intro k3 li3 co3 m3 y3 n3 ks3 ps3 bs3 hx5 hS
    exact endS hS rfl
  · refine whE (wholeExpr_c (.mk 5 li co 0 [] t ks [] []) (gd_node hk)) en_wholeExpr hS ?_
    intro k3 li3 co3 m3 y3 n3 ks3 ps3 bs3 hx5 hS
    exact endS hS rfl
theorem sev_c (l : List Tk) (b : Bool) (hl : l.length ≤ n) (hl0 : l ≠ []) : CT z 206 [.ptr 0 0] (fun v => .agg (exP v)) (sevS z ex l b) l b := by
  refine a206 _ _ _ _ ?_
  unfold p206
  refine spNext ?_
  refine spL (insideE_c hz hn hp hm ⟨#[44]⟩ (by decide +kernel) 6 l b hl hl0) en_insideE (S := sevS z ex l b) rfl ?_
  intro ks l2 b2 hx2 hS
  have hk := (inside_good hg _ _ l b (by omega) _ _ _ hx2).2
  refine brS hS (fun h hS => ?_) (fun h hS => ?_)
  · cases ks with
    | nil => simp [exPs] at h
    | cons p ks =>
      obtain ⟨k, li, co, m, y, n, ks', ps', bs', rfl⟩ := ex_mk' p
      exact ⟨_, _, _, _, _, _, _, _, ⟨by decide, rfl, endS hS rfl⟩⟩
  · refine whE (wholeExpr_c (.mk 4 _ _ 0 [] e0 ks [] []) (gd_node hk)) en_wholeExpr hS ?_
    intro k3 li3 co3 m3 y3 n3 ks3 ps3 bs3 hx5 hS
    exact endS hS rfl
theorem atom_c (l : List Tk) (b : Bool) (hl : l.length ≤ n) : CT z 194 [.ptr 0 0] (fun v => .agg (exP v)) (atomS z ex l b) l b := by
  refine a194 _ _ _ _ ?_
  unfold p194
  refine spNext ?_
  refine brS (S := atomS z ex l b) rfl (fun h hS => ?_) (fun h hS => ?_)
  · refine spI (number_c hz l b) en_number hS ?_
    intro m l1 b1 hx hS
    exact endS hS rfl
  refine spStands ?_
  refine brS hS (fun h hS => ?_) (fun h hS => ?_)
  · refine spI (number_c hz l b) en_number hS ?_
    intro m l1 b1 hx hS
    exact endS hS rfl
  refine brS hS (fun h hS => ?_) (fun h hS => ?_)
  · refine spK (take_c l b (ne_of_kind hz h (by decide))) en_take hS ?_
    intro k0 t m y li co l1 b1 hx hS
    exact endS hS rfl
  refine spStands ?_
  refine brS hS (fun h hS => ?_) (fun h hS => ?_)
  · refine spK (take_c l b (ne_of_st hz h (by decide +kernel))) en_take hS ?_
    intro k0 t m y li co l1 b1 hx hS
    exact endS hS rfl
  refine brS hS (fun h hS => ?_) (fun h hS => ?_)
  · refine spE (named_c hz hn hp hm hg l b hl (ne_of_kind hz h (by decide))) (enters_of Tryz.func204 (by kernel_rfl) rfl) hS ?_
    intro k3 li3 co3 m3 y3 n3 ks3 ps3 bs3 l1 b1 hx5 hS
    exact endS hS rfl
  refine brS hS (fun h hS => ?_) (fun h hS => ?_)
  · have hl0 := ne_of_kind hz h (by decide)
    refine spKC (take_c l b hl0) en_take hS ?_ ?_
    · intro k0 t m y li co l1 b1 hx hS
      have h1 := (take_lt hx hl0).1
      refine spLC (optE_c hz hn hp hm l1 b1 (by omega)) en_optE hS ?_ ?_
      · intro ks l2 b2 hx2 hS
        have hk := (opt_good hg l1 b1 (by omega) _ _ _ hx2).2
        refine whEC (wholeExpr_c (.mk 3 _ _ 0 [] t ks [] []) (gd_node hk)) en_wholeExpr hS ?_ ?_
        · intro k3 li3 co3 m3 y3 n3 ks3 ps3 bs3 hx4 hS _
          exact endS hS rfl
        · intro ft hx4 hg; exact hg.2.elim
      · intro ft hx2
        exact ⟨0, 0, 0, 0, [], e0, [], [], False, ⟨en_wholeExpr, fun h => h.2.elim, fun h => h.2.elim⟩⟩
    · intro ft hx
      exact ⟨[], [], false, False, ⟨en_optE, fun h => h.elim, ⟨0, 0, 0, 0, [], e0, [], [], False, ⟨en_wholeExpr, fun h => h.2.elim, fun h => h.2.elim⟩⟩⟩⟩
  refine spStands ?_
  refine brS hS (fun h hS => ?_) (fun h hS => spThrow hS)
  refine spE (sev_c hz hn hp hm hg l b hl (ne_of_st hz h (by decide +kernel))) (enters_of Tryz.func206 (by kernel_rfl) rfl) hS ?_
  intro k3 li3 co3 m3 y3 n3 ks3 ps3 bs3 l1 b1 hx5 hS
  exact endS hS rfl
omit hp hm hg
theorem op_s {right : Rd Ex} (hr : ∀ l b, l.length ≤ n → CT z 123 [.ptr 0 0] (fun v => .agg (exP v)) (right l b) l b) (hmr : Mono right) (hgr : Good right gdE) (op : Int) (left : Ex) (hleft : gdE left) (l : List Tk) (b : Bool) (hl : l.length ≤ n) (hl0 : l ≠ []) :
    CT z 126 [.ptr 0 0, .con (.int .i64 op), .agg (exP left), .bm 123 [.ptr 0 0]] (fun v => .agg (exP v)) (opS z right op left l b) l b := by
  cases left with
  | mk k1 li1 co1 m1 y1 n1 ks1 ps1 bs1 =>
  refine a126s _ _ _ _ _ _ _ _ _ _ _ _ _ ?_
  unfold p126s
  refine spKC (take_c l b hl0) en_take (S := opS z right op (.mk k1 li1 co1 m1 y1 n1 ks1 ps1 bs1) l b) rfl ?_ ?_
  · intro k0 t m y li co l1 b1 hx hS
    have h1 := (take_lt hx hl0).1
    refine spEC (hr l1 b1 (by omega)) (enters_of Tryz.func123 (by kernel_rfl) rfl) hS ?_ ?_
    · intro k2 li2 co2 m2 y2 n2 ks2 ps2 bs2 l2 b2 hx2 hS
      have g2 := (hgr l1 b1 (by omega) _ _ _ hx2).2
      refine whEC (wholeExpr_c (.mk 9 li co op [] e0 [.mk k1 li1 co1 m1 y1 n1 ks1 ps1 bs1, .mk k2 li2 co2 m2 y2 n2 ks2 ps2 bs2] [] []) (gd_two hleft g2)) en_wholeExpr hS ?_ ?_
      · intro k3 li3 co3 m3 y3 n3 ks3 ps3 bs3 hx5 hS _
        exact endS hS rfl
      · intro ft hx5 hg; exact hg.2.elim
    · intro ft hx2
      exact ⟨0, 0, 0, 0, [], e0, [], [], False, ⟨en_wholeExpr, fun h => h.2.elim, fun h => h.2.elim⟩⟩
  · intro ft hx
    exact ⟨0, 0, 0, 0, [], e0, [], [], [], false, False, ⟨enters_of Tryz.func123 (by kernel_rfl) rfl, fun h => h.elim, ⟨0, 0, 0, 0, [], e0, [], [], False, ⟨en_wholeExpr, fun h => h.2.elim, fun h => h.2.elim⟩⟩⟩⟩
theorem op_p {right : Rd Ex} (hr : ∀ l b, l.length ≤ n → CT z 168 [.ptr 0 0] (fun v => .agg (exP v)) (right l b) l b) (hmr : Mono right) (hgr : Good right gdE) (op : Int) (left : Ex) (hleft : gdE left) (l : List Tk) (b : Bool) (hl : l.length ≤ n) (hl0 : l ≠ []) :
    CT z 126 [.ptr 0 0, .con (.int .i64 op), .agg (exP left), .bm 168 [.ptr 0 0]] (fun v => .agg (exP v)) (opS z right op left l b) l b := by
  cases left with
  | mk k1 li1 co1 m1 y1 n1 ks1 ps1 bs1 =>
  refine a126p _ _ _ _ _ _ _ _ _ _ _ _ _ ?_
  unfold p126p
  refine spKC (take_c l b hl0) en_take (S := opS z right op (.mk k1 li1 co1 m1 y1 n1 ks1 ps1 bs1) l b) rfl ?_ ?_
  · intro k0 t m y li co l1 b1 hx hS
    have h1 := (take_lt hx hl0).1
    refine spEC (hr l1 b1 (by omega)) (enters_of Tryz.func168 (by kernel_rfl) rfl) hS ?_ ?_
    · intro k2 li2 co2 m2 y2 n2 ks2 ps2 bs2 l2 b2 hx2 hS
      have g2 := (hgr l1 b1 (by omega) _ _ _ hx2).2
      refine whEC (wholeExpr_c (.mk 9 li co op [] e0 [.mk k1 li1 co1 m1 y1 n1 ks1 ps1 bs1, .mk k2 li2 co2 m2 y2 n2 ks2 ps2 bs2] [] []) (gd_two hleft g2)) en_wholeExpr hS ?_ ?_
      · intro k3 li3 co3 m3 y3 n3 ks3 ps3 bs3 hx5 hS _
        exact endS hS rfl
      · intro ft hx5 hg; exact hg.2.elim
    · intro ft hx2
      exact ⟨0, 0, 0, 0, [], e0, [], [], False, ⟨en_wholeExpr, fun h => h.2.elim, fun h => h.2.elim⟩⟩
  · intro ft hx
    exact ⟨0, 0, 0, 0, [], e0, [], [], [], false, False, ⟨enters_of Tryz.func168 (by kernel_rfl) rfl, fun h => h.elim, ⟨0, 0, 0, 0, [], e0, [], [], False, ⟨en_wholeExpr, fun h => h.2.elim, fun h => h.2.elim⟩⟩⟩⟩
theorem op_a {right : Rd Ex} (hr : ∀ l b, l.length ≤ n → CT z 194 [.ptr 0 0] (fun v => .agg (exP v)) (right l b) l b) (hmr : Mono right) (hgr : Good right gdE) (op : Int) (left : Ex) (hleft : gdE left) (l : List Tk) (b : Bool) (hl : l.length ≤ n) (hl0 : l ≠ []) :
    CT z 126 [.ptr 0 0, .con (.int .i64 op), .agg (exP left), .bm 194 [.ptr 0 0]] (fun v => .agg (exP v)) (opS z right op left l b) l b := by
  cases left with
  | mk k1 li1 co1 m1 y1 n1 ks1 ps1 bs1 =>
  refine a126a _ _ _ _ _ _ _ _ _ _ _ _ _ ?_
  unfold p126a
  refine spKC (take_c l b hl0) en_take (S := opS z right op (.mk k1 li1 co1 m1 y1 n1 ks1 ps1 bs1) l b) rfl ?_ ?_
  · intro k0 t m y li co l1 b1 hx hS
    have h1 := (take_lt hx hl0).1
    refine spEC (hr l1 b1 (by omega)) (enters_of Tryz.func194 (by kernel_rfl) rfl) hS ?_ ?_
    · intro k2 li2 co2 m2 y2 n2 ks2 ps2 bs2 l2 b2 hx2 hS
      have g2 := (hgr l1 b1 (by omega) _ _ _ hx2).2
      refine whEC (wholeExpr_c (.mk 9 li co op [] e0 [.mk k1 li1 co1 m1 y1 n1 ks1 ps1 bs1, .mk k2 li2 co2 m2 y2 n2 ks2 ps2 bs2] [] []) (gd_two hleft g2)) en_wholeExpr hS ?_ ?_
      · intro k3 li3 co3 m3 y3 n3 ks3 ps3 bs3 hx5 hS _
        exact endS hS rfl
      · intro ft hx5 hg; exact hg.2.elim
    · intro ft hx2
      exact ⟨0, 0, 0, 0, [], e0, [], [], False, ⟨en_wholeExpr, fun h => h.2.elim, fun h => h.2.elim⟩⟩
  · intro ft hx
    exact ⟨0, 0, 0, 0, [], e0, [], [], [], false, False, ⟨enters_of Tryz.func194 (by kernel_rfl) rfl, fun h => h.elim, ⟨0, 0, 0, 0, [], e0, [], [], False, ⟨en_wholeExpr, fun h => h.2.elim, fun h => h.2.elim⟩⟩⟩⟩
theorem chain_s {part : Rd Ex} (hr : ∀ l b, l.length ≤ n → CT z 168 [.ptr 0 0] (fun v => .agg (exP v)) (part l b) l b) (hmr : Mono part) (hgr : Good part gdE) (l : List Tk) (b : Bool) (hl : l.length ≤ n) :
    CT z 166 [.ptr 0 0, .fn 167 [], .bm 168 [.ptr 0 0]] (fun v => .agg (exP v)) (chainS z opSum part l b) l b := by
  refine a166s _ _ _ _ ?_
  unfold p166s
  refine spE (hr l b hl) (enters_of Tryz.func168 (by kernel_rfl) rfl) (S := chainS z opSum part l b) rfl ?_
  intro k0 li co m y n0 ks ps bs l1 b1 hx hS
  have h1 := hmr _ _ _ _ _ hx
  have g1 := (hgr l b (by omega) _ _ _ hx).2
  generalize chainS z opSum part l b = S at hS
  refine ⟨fun c v => ∃ k0 li co m y n0 ks ps bs l2 b2, v = (tksP z l2, b2, k0, li, co, m, byP y, n0, exPs ks, arPs bs ps, ()) ∧ S = chS z opSum part c (.mk k0 li co m y n0 ks ps bs) l2 b2 ∧ l2.length < c ∧ l2.length ≤ n ∧ gdE (.mk k0 li co m y n0 ks ps bs), ⟨_, k0, li, co, m, y, n0, ks, ps, bs, l1, b1, rfl, hS, by omega, by omega, g1⟩, ?_⟩
  rintro c v ⟨k0, li, co, m, y, n0, ks, ps, bs, l2, b2, rfl, hS, hlt, hle, hge⟩
  cases c with
  | zero => omega
  | succ f =>
  dsimp only
  refine spSign ?_
  refine ⟨_, _, call_p en_summing (summing_p _) rfl ?_⟩
  refine brS hS (fun h hS => endS hS rfl) (fun h hS => ?_)
  have hl0 := ne_of_op hz opSum_e (l := l2) (by simpa using h)
  refine spE (op_p hz hn hr hmr hgr _ _ hge l2 b2 hle hl0) en_op hS ?_
  intro k1 li1 co1 m1 y1 n1 ks1 ps1 bs1 l3 b3 hx3 hS
  have g3 := (op_good hgr _ hge l2 b2 (by omega) _ _ _ hx3).2
  have h3 : l3.length < l2.length := by
    obtain ⟨a, l4, b4, q1, q2⟩ := bnd_ok hx3
    obtain ⟨a5, l5, b5, q3, q4⟩ := bnd_ok q2
    obtain ⟨a6, q5, q6⟩ := bndE_ok q4
    have r1 := (take_lt q1 hl0).1
    have r2 := hmr _ _ _ _ _ q3
    injection q6 with q6; injection q6 with s1 s2; injection s2 with s2 s3
    rw [← s2]; omega
  exact ⟨⟨rfl, rfl, rfl, rfl, rfl, trivial⟩, rfl, f, by omega, k1, li1, co1, m1, y1, n1, ks1, ps1, bs1, l3, b3, rfl, hS, by omega, by omega, g3⟩
theorem chain_t {part : Rd Ex} (hr : ∀ l b, l.length ≤ n → CT z 194 [.ptr 0 0] (fun v => .agg (exP v)) (part l b) l b) (hmr : Mono part) (hgr : Good part gdE) (l : List Tk) (b : Bool) (hl : l.length ≤ n) :
    CT z 166 [.ptr 0 0, .fn 193 [], .bm 194 [.ptr 0 0]] (fun v => .agg (exP v)) (chainS z opTim part l b) l b := by
  refine a166t _ _ _ _ ?_
  unfold p166t
  refine spE (hr l b hl) (enters_of Tryz.func194 (by kernel_rfl) rfl) (S := chainS z opTim part l b) rfl ?_
  intro k0 li co m y n0 ks ps bs l1 b1 hx hS
  have h1 := hmr _ _ _ _ _ hx
  have g1 := (hgr l b (by omega) _ _ _ hx).2
  generalize chainS z opTim part l b = S at hS
  refine ⟨fun c v => ∃ k0 li co m y n0 ks ps bs l2 b2, v = (tksP z l2, b2, k0, li, co, m, byP y, n0, exPs ks, arPs bs ps, ()) ∧ S = chS z opTim part c (.mk k0 li co m y n0 ks ps bs) l2 b2 ∧ l2.length < c ∧ l2.length ≤ n ∧ gdE (.mk k0 li co m y n0 ks ps bs), ⟨_, k0, li, co, m, y, n0, ks, ps, bs, l1, b1, rfl, hS, by omega, by omega, g1⟩, ?_⟩
  rintro c v ⟨k0, li, co, m, y, n0, ks, ps, bs, l2, b2, rfl, hS, hlt, hle, hge⟩
  cases c with
  | zero => omega
  | succ f =>
  dsimp only
  refine spSign ?_
  refine ⟨_, _, call_p en_timing (timing_p _) rfl ?_⟩
  refine brS hS (fun h hS => endS hS rfl) (fun h hS => ?_)
  have hl0 := ne_of_op hz opTim_e (l := l2) (by simpa using h)
  refine spE (op_a hz hn hr hmr hgr _ _ hge l2 b2 hle hl0) en_op hS ?_
  intro k1 li1 co1 m1 y1 n1 ks1 ps1 bs1 l3 b3 hx3 hS
  have g3 := (op_good hgr _ hge l2 b2 (by omega) _ _ _ hx3).2
  have h3 : l3.length < l2.length := by
    obtain ⟨a, l4, b4, q1, q2⟩ := bnd_ok hx3
    obtain ⟨a5, l5, b5, q3, q4⟩ := bnd_ok q2
    obtain ⟨a6, q5, q6⟩ := bndE_ok q4
    have r1 := (take_lt q1 hl0).1
    have r2 := hmr _ _ _ _ _ q3
    injection q6 with q6; injection q6 with s1 s2; injection s2 with s2 s3
    rw [← s2]; omega
  exact ⟨⟨rfl, rfl, rfl, rfl, rfl, trivial⟩, rfl, f, by omega, k1, li1, co1, m1, y1, n1, ks1, ps1, bs1, l3, b3, rfl, hS, by omega, by omega, g3⟩
include hp hm hg
theorem prod_c (l : List Tk) (b : Bool) (hl : l.length ≤ n) : CT z 168 [.ptr 0 0] (fun v => .agg (exP v)) (prodS z ex l b) l b := by
  refine a168 _ _ _ _ ?_
  unfold p168
  refine spE (chain_t hz hn (atom_c hz hn hp hm hg) (mono_atom hm) (atom_good hg) l b hl) en_chain (S := prodS z ex l b) rfl ?_
  intro k3 li3 co3 m3 y3 n3 ks3 ps3 bs3 l1 b1 hx5 hS
  exact endS hS rfl
theorem sum_c (l : List Tk) (b : Bool) (hl : l.length ≤ n) : CT z 123 [.ptr 0 0] (fun v => .agg (exP v)) (sumS z ex l b) l b := by
  refine a123 _ _ _ _ ?_
  unfold p123
  refine spE (chain_s hz hn (prod_c hz hn hp hm hg) (mono_prod hm) (prod_good hg) l b hl) en_chain (S := sumS z ex l b) rfl ?_
  intro k3 li3 co3 m3 y3 n3 ks3 ps3 bs3 l1 b1 hx5 hS
  exact endS hS rfl
theorem cmp_c (l : List Tk) (b : Bool) (hl : l.length ≤ n) : CT z 76 [.ptr 0 0] (fun v => .agg (exP v)) (cmpS z ex l b) l b := by
  refine a76 _ _ _ _ ?_
  unfold p76
  refine spE (sum_c hz hn hp hm hg l b hl) en_sum (S := cmpS z ex l b) rfl ?_
  intro k3 li3 co3 m3 y3 n3 ks3 ps3 bs3 l1 b1 hx hS
  have h1 := mono_sum hm _ _ _ _ _ hx
  have g1 := (sum_good hg l b (by omega) _ _ _ hx).2
  refine spSign ?_
  refine ⟨_, _, call_p en_comparison (comparison_p _) rfl ?_⟩
  refine brS hS (fun h hS => ?_) (fun h hS => endS hS rfl)
  refine spE (op_s hz hn (sum_c hz hn hp hm hg) (mono_sum hm) (sum_good hg) _ _ g1 l1 b1 (by omega) (ne_of_op hz opComp_e h)) en_op hS ?_
  intro k3 li3 co3 m3 y3 n3 ks3 ps3 bs3 l1 b1 hx5 hS
  exact endS hS rfl
include hpp hmp hgp
theorem arm_c (l : List Tk) (b : Bool) (hl : l.length < n) : CT z 121 [.ptr 0 0] (fun v => .agg (ptP v.1 ++ exP v.2)) (armS z ex pt l b) l b := by
  refine a121 _ _ _ _ ?_
  unfold p121
  refine spP (hpp l b hl) en_pat (S := armS z ex pt l b) rfl ?_
  intro k0 li co n0 m ks0 l1 b1 hx hS
  have h1 := hmp _ _ _ _ _ hx
  refine spE (behind_c hz hn hp hm hg ⟨#[45, 62]⟩ (by decide +kernel) l1 b1 (by omega)) en_behind hS ?_
  intro k1 li1 co1 m1 y1 n1 ks1 ps1 bs1 l3 b3 hx3 hS
  exact endS hS rfl
theorem match_c (l : List Tk) (b : Bool) (hl : l.length ≤ n) : CT z 74 [.ptr 0 0] (fun v => .agg (exP v)) (matchS z ex pt l b) l b := by
  refine a74 _ _ _ _ ?_
  unfold p74
  refine spNext ?_
  refine spE (behind_c hz hn hp hm hg ⟨#[109, 97, 116, 99, 104]⟩ (by decide +kernel) l b hl) en_behind (S := matchS z ex pt l b) rfl ?_
  intro k0 li0 co0 m0 y0 n0 ks0 ps0 bs0 l1 b1 hx1 hS
  have h1 := mono_behind hm _ _ _ _ _ _ hx1
  have g1 := (behind_good hg _ l b (by omega) _ _ _ hx1).2
  refine spU (want_c hz ⟨#[119, 105, 116, 104]⟩ (by decide +kernel) l1 b1) en_want hS ?_
  intro l2 b2 hx2 hS
  have h2 := want_lt hz (by decide +kernel) hx2
  refine spB (skip_c hz ⟨#[124]⟩ (by decide +kernel) l2 b2) en_skip hS ?_
  intro t l3 b3 hx3 hS
  have h3 := mono_skip _ _ _ _ _ _ hx3
  refine spL (listA_c hz hn (arm_c hz hn hp hm hg hpp hmp hgp) (mono_arm hm hmp) ⟨#[124]⟩ (by decide +kernel) 32 l3 b3 (by omega)) en_listA hS ?_
  intro rs l4 b4 hx4 hS
  have g4 := (lis_good (arm_good hg hgp) _ _ l3 b3 (by omega) _ _ _ hx4).2
  refine spU (want_c hz ⟨#[101, 110, 100]⟩ (by decide +kernel) l4 b4) en_want hS ?_
  intro l5 b5 hx5 hS
  rw [amPs_ar]
  refine whE (wholeExpr_c (.mk 8 _ _ 0 [] e0 [.mk k0 li0 co0 m0 y0 n0 ks0 ps0 bs0] (rs.map Prod.fst) (rs.map Prod.snd)) (gd_arms g1 g4)) en_wholeExpr hS ?_
  intro k3 li3 co3 m3 y3 n3 ks3 ps3 bs3 hx5 hS
  exact endS hS rfl
theorem expr_step (l : List Tk) (b : Bool) (hl : l.length ≤ n) : CT z 32 [.ptr 0 0] (fun v => .agg (exP v)) (exprS z ex pt l b) l b := by
  refine a32 _ _ _ _ ?_
  unfold p32
  refine spWord ?_
  refine brS (S := exprS z ex pt l b) rfl (fun h hS => ?_) (fun h hS => ?_)
  · refine spE (let_c hz hn hp hm hg l b hl (ne_of_text hz h (by decide) (by decide +kernel))) (enters_of Tryz.func72 (by kernel_rfl) rfl) hS ?_
    intro k3 li3 co3 m3 y3 n3 ks3 ps3 bs3 l1 b1 hx5 hS
    exact endS hS rfl
  refine brS hS (fun h hS => ?_) (fun h hS => ?_)
  · refine spE (cond_c hz hn hp hm hg l b hl) (enters_of Tryz.func73 (by kernel_rfl) rfl) hS ?_
    intro k3 li3 co3 m3 y3 n3 ks3 ps3 bs3 l1 b1 hx5 hS
    exact endS hS rfl
  refine brS hS (fun h hS => ?_) (fun h hS => ?_)
  · refine spE (match_c hz hn hp hm hg hpp hmp hgp l b hl) (enters_of Tryz.func74 (by kernel_rfl) rfl) hS ?_
    intro k3 li3 co3 m3 y3 n3 ks3 ps3 bs3 l1 b1 hx5 hS
    exact endS hS rfl
  refine brS hS (fun h hS => ?_) (fun h hS => ?_)
  · refine spE (loop_c hz hn hp hm hg l b hl (ne_of_text hz h (by decide) (by decide +kernel))) (enters_of Tryz.func75 (by kernel_rfl) rfl) hS ?_
    intro k3 li3 co3 m3 y3 n3 ks3 ps3 bs3 l1 b1 hx5 hS
    exact endS hS rfl
  refine spE (cmp_c hz hn hp hm hg l b hl) (enters_of Tryz.func76 (by kernel_rfl) rfl) hS ?_
  intro k3 li3 co3 m3 y3 n3 ks3 ps3 bs3 l1 b1 hx5 hS
  exact endS hS rfl
end
theorem expr_c (hz : z.kind = 0) : ∀ n, n ≤ 100000 → ∀ l b, l.length < n → CT z 32 [.ptr 0 0] (fun v => .agg (exP v)) (pE z n l b) l b
  | 0, _ => fun l b h => absurd h (Nat.not_lt_zero _)
  | n + 1, hn => fun l b h => expr_step hz (n := n) (by omega) (expr_c hz n (by omega)) (mono_E n) (good_E n) (pat_c hz n (by omega)) (mono_P n) (good_P n) l b (by omega)
end Go.Proofs.YtjhnmikciejekaaGreat.Deep

namespace Go.Proofs.YtjhnmikciejekaaGreat.Deep
open Go.RowKit
set_option linter.unusedVariables false
def p109 (i1 : Int) (l2 : List (List PV)) (b3 : Bool) (Q : PV → Heap → Prop) (H : Value → Prop) : Prop :=
∃ l4 : List (List PV), ∃ b5 : Bool, ∃ g6 : Prop, CallT Tryz.prog H True 118 [(.ptr 0 0), (.con (.string ⟨#[99, 97, 112]⟩))] [[l2, b3]] (.tup []) [[l4, b5]] g6
  ((g6 → (∃ i7 : Int, ∃ l8 : List (List PV), ∃ b9 : Bool, ∃ g10 : Prop, CallT Tryz.prog H True 108 [(.ptr 0 0), (.con (.int .i64 0)), i1] [[l4, b5]] i7 [[l8, b9]] g10
  ((g10 → (Q i7 [[l8, b9]]))))))
theorem a109 (i1 : Int) (l2 : List (List PV)) (b3 : Bool) (Q : PV → Heap → Prop) (H : Value → Prop) (h : p109 i1 l2 b3 Q H) : TCalls Tryz.prog 109 [(.ptr 0 0), i1] [[l2, b3]] Q H := by
  have hb : Option.some (bodyOf Tryz.f109) = Tryz.f109.body := by kernel_rfl
  exact tcalls_canon (res := [.cell (.int .i64)]) (post := [.cells [.list, .bool]]) (tcalls_eq (S := S) (L := loops60) mixed tok Tryz.func109 hb.symm (by kernel_rfl) h)
def p157 (l1 : List (List PV)) (b2 : Bool) (Q : PV → Heap → Prop) (H : Value → Prop) : Prop :=
∃ i3 : Int, ∃ s4 : ByteArray, ∃ i5 : Int, ∃ l6 : List (List PV), ∃ i7 : Int, ∃ i8 : Int, ∃ l9 : List (List PV), ∃ b10 : Bool, ∃ g11 : Prop, CallT Tryz.prog H True 133 [(.ptr 0 0), (.con (.int .i64 2))] [[l1, b2]] (.agg [i3, s4, i5, l6, i7, i8]) [[l9, b10]] g11
  ((g11 → (∃ b12 : Bool, ∃ l13 : List (List PV), ∃ b14 : Bool, ∃ g15 : Prop, CallT Tryz.prog H True 119 [(.ptr 0 0), (.con (.string ⟨#[111, 102]⟩))] [[l9, b10]] b12 [[l13, b14]] g15
  ((g15 → (br (b12)
  (∃ l16 : List (List PV), ∃ l17 : List (List PV), ∃ b18 : Bool, ∃ g19 : Prop, CallT Tryz.prog H True 131 [(.ptr 0 0), (.con (.string ⟨#[42]⟩)), (.con (.int .i64 6)), (.bm 36 [(.ptr 0 0)])] [[l13, b14]] l16 [[l17, b18]] g19
  ((g19 → (Q (.agg [s4, l16]) [[l17, b18]]))))
  (Q (.agg [s4, (.sl [])]) [[l13, b14]])))))))
theorem a157 (l1 : List (List PV)) (b2 : Bool) (Q : PV → Heap → Prop) (H : Value → Prop) (h : p157 l1 b2 Q H) : TCalls Tryz.prog 157 [(.ptr 0 0)] [[l1, b2]] Q H := by
  have hb : Option.some (bodyOf Tryz.f157) = Tryz.f157.body := by kernel_rfl
  exact tcalls_canon (res := [.agg [.str, .list]]) (post := [.cells [.list, .bool]]) (tcalls_eq (S := S) (L := loops60) mixed tok Tryz.func157 hb.symm (by kernel_rfl) h)
def p160 (l1 : List (List PV)) (b2 : Bool) (Q : PV → Heap → Prop) (H : Value → Prop) : Prop :=
∃ s3 : ByteArray, ∃ l4 : List (List PV), ∃ b5 : Bool, ∃ g6 : Prop, CallT Tryz.prog H True 84 [(.ptr 0 0)] [[l1, b2]] s3 [[l4, b5]] g6
  ((g6 → (∃ l7 : List (List PV), ∃ b8 : Bool, ∃ g9 : Prop, CallT Tryz.prog H True 118 [(.ptr 0 0), (.con (.string ⟨#[58]⟩))] [[l4, b5]] (.tup []) [[l7, b8]] g9
  ((g9 → (∃ i10 : Int, ∃ s11 : ByteArray, ∃ l12 : List (List PV), ∃ l13 : List (List PV), ∃ b14 : Bool, ∃ g15 : Prop, CallT Tryz.prog H True 36 [(.ptr 0 0)] [[l7, b8]] (.agg [i10, s11, l12]) [[l13, b14]] g15
  ((g15 → (Q (.agg [s3, i10, s11, l12]) [[l13, b14]])))))))))
theorem a160 (l1 : List (List PV)) (b2 : Bool) (Q : PV → Heap → Prop) (H : Value → Prop) (h : p160 l1 b2 Q H) : TCalls Tryz.prog 160 [(.ptr 0 0)] [[l1, b2]] Q H := by
  have hb : Option.some (bodyOf Tryz.f160) = Tryz.f160.body := by kernel_rfl
  exact tcalls_canon (res := [.agg [.str, .int .i64, .str, .list]]) (post := [.cells [.list, .bool]]) (tcalls_eq (S := S) (L := loops60) mixed tok Tryz.func160 hb.symm (by kernel_rfl) h)
def p110 (l1 : List (List PV)) (b2 : Bool) (Q : PV → Heap → Prop) (H : Value → Prop) : Prop :=
∃ i3 : Int, ∃ i4 : Int, ∃ i5 : Int, ∃ i6 : Int, ∃ l7 : List (List PV), ∃ s8 : ByteArray, ∃ l9 : List (List PV), ∃ l10 : List (List PV), ∃ l11 : List (List PV), ∃ b12 : Bool, ∃ g13 : Prop, CallT Tryz.prog H True 116 [(.ptr 0 0), (.con (.string ⟨#[61]⟩))] [[l1, b2]] (.agg [i3, i4, i5, i6, l7, s8, l9, l10]) [[l11, b12]] g13
  ((g13 → (Q (.agg [i3, i4, i5, i6, l7, s8, l9, l10]) [[l11, b12]])))
theorem a110 (l1 : List (List PV)) (b2 : Bool) (Q : PV → Heap → Prop) (H : Value → Prop) (h : p110 l1 b2 Q H) : TCalls Tryz.prog 110 [(.ptr 0 0)] [[l1, b2]] Q H := by
  have hb : Option.some (bodyOf Tryz.f110) = Tryz.f110.body := by kernel_rfl
  exact tcalls_canon (res := [.agg [.int .i64, .int .i64, .int .i64, .int .i64, .list, .str, .list, .list]]) (post := [.cells [.list, .bool]]) (tcalls_eq (S := S) (L := loops60) mixed tok Tryz.func110 hb.symm (by kernel_rfl) h)
def p105 (l1 : List (List PV)) (b2 : Bool) (Q : PV → Heap → Prop) (H : Value → Prop) : Prop :=
∃ i3 : Int, ∃ s4 : ByteArray, ∃ i5 : Int, ∃ l6 : List (List PV), ∃ i7 : Int, ∃ i8 : Int, ∃ l9 : List (List PV), ∃ b10 : Bool, ∃ g11 : Prop, CallT Tryz.prog H True 115 [(.ptr 0 0)] [[l1, b2]] (.agg [i3, s4, i5, l6, i7, i8]) [[l9, b10]] g11
  ((g11 → (∃ s12 : ByteArray, ∃ l13 : List (List PV), ∃ b14 : Bool, ∃ g15 : Prop, CallT Tryz.prog H True 154 [(.ptr 0 0), (.fn 158 [])] [[l9, b10]] s12 [[l13, b14]] g15
  ((g15 → (∃ l16 : List (List PV), ∃ l17 : List (List PV), ∃ b18 : Bool, ∃ g19 : Prop, CallT Tryz.prog H True 159 [(.ptr 0 0), (.con (.string ⟨#[44]⟩)), (.con (.int .i64 6)), (.bm 160 [(.ptr 0 0)])] [[l13, b14]] l16 [[l17, b18]] g19
  ((g19 → (∃ l20 : List (List PV), ∃ b21 : Bool, ∃ g22 : Prop, CallT Tryz.prog H True 118 [(.ptr 0 0), (.con (.string ⟨#[58]⟩))] [[l17, b18]] (.tup []) [[l20, b21]] g22
  ((g22 → (∃ i23 : Int, ∃ s24 : ByteArray, ∃ l25 : List (List PV), ∃ l26 : List (List PV), ∃ b27 : Bool, ∃ g28 : Prop, CallT Tryz.prog H True 36 [(.ptr 0 0)] [[l20, b21]] (.agg [i23, s24, l25]) [[l26, b27]] g28
  ((g28 → (∃ i29 : Int, ∃ i30 : Int, ∃ i31 : Int, ∃ i32 : Int, ∃ l33 : List (List PV), ∃ s34 : ByteArray, ∃ l35 : List (List PV), ∃ l36 : List (List PV), ∃ l37 : List (List PV), ∃ b38 : Bool, ∃ g39 : Prop, CallT Tryz.prog H True 110 [(.ptr 0 0)] [[l26, b27]] (.agg [i29, i30, i31, i32, l33, s34, l35, l36]) [[l37, b38]] g39
  ((g39 → (Q (.agg [i7, i8, s12, l16, i23, s24, l25, i29, i30, i31, i32, l33, s34, l35, l36]) [[l37, b38]]))))))))))))))))))
theorem a105 (l1 : List (List PV)) (b2 : Bool) (Q : PV → Heap → Prop) (H : Value → Prop) (h : p105 l1 b2 Q H) : TCalls Tryz.prog 105 [(.ptr 0 0)] [[l1, b2]] Q H := by
  have hb : Option.some (bodyOf Tryz.f105) = Tryz.f105.body := by kernel_rfl
  exact tcalls_canon (res := [.agg [.int .i64, .int .i64, .str, .list, .int .i64, .str, .list, .int .i64, .int .i64, .int .i64, .int .i64, .list, .str, .list, .list]]) (post := [.cells [.list, .bool]]) (tcalls_eq (S := S) (L := loops60) mixed tok Tryz.func105 hb.symm (by kernel_rfl) h)
def p106 (l1 : List (List PV)) (b2 : Bool) (Q : PV → Heap → Prop) (H : Value → Prop) : Prop :=
∃ i3 : Int, ∃ s4 : ByteArray, ∃ i5 : Int, ∃ l6 : List (List PV), ∃ i7 : Int, ∃ i8 : Int, ∃ l9 : List (List PV), ∃ b10 : Bool, ∃ g11 : Prop, CallT Tryz.prog H True 115 [(.ptr 0 0)] [[l1, b2]] (.agg [i3, s4, i5, l6, i7, i8]) [[l9, b10]] g11
  ((g11 → (∃ s12 : ByteArray, ∃ l13 : List (List PV), ∃ b14 : Bool, ∃ g15 : Prop, CallT Tryz.prog H True 84 [(.ptr 0 0)] [[l9, b10]] s12 [[l13, b14]] g15
  ((g15 → (∃ l16 : List (List PV), ∃ b17 : Bool, ∃ g18 : Prop, CallT Tryz.prog H True 118 [(.ptr 0 0), (.con (.string ⟨#[40]⟩))] [[l13, b14]] (.tup []) [[l16, b17]] g18
  ((g18 → (∃ s19 : ByteArray, ∃ i20 : Int, ∃ s21 : ByteArray, ∃ l22 : List (List PV), ∃ l23 : List (List PV), ∃ b24 : Bool, ∃ g25 : Prop, CallT Tryz.prog H True 160 [(.ptr 0 0)] [[l16, b17]] (.agg [s19, i20, s21, l22]) [[l23, b24]] g25
  ((g25 → (∃ i26 : Int, ∃ l27 : List (List PV), ∃ b28 : Bool, ∃ g29 : Prop, CallT Tryz.prog H True 109 [(.ptr 0 0), (.con (.int .i64 64))] [[l23, b24]] i26 [[l27, b28]] g29
  ((g29 → (∃ l30 : List (List PV), ∃ b31 : Bool, ∃ g32 : Prop, CallT Tryz.prog H True 118 [(.ptr 0 0), (.con (.string ⟨#[41]⟩))] [[l27, b28]] (.tup []) [[l30, b31]] g32
  ((g32 → (∃ i33 : Int, ∃ i34 : Int, ∃ i35 : Int, ∃ i36 : Int, ∃ l37 : List (List PV), ∃ s38 : ByteArray, ∃ l39 : List (List PV), ∃ l40 : List (List PV), ∃ l41 : List (List PV), ∃ b42 : Bool, ∃ g43 : Prop, CallT Tryz.prog H True 110 [(.ptr 0 0)] [[l30, b31]] (.agg [i33, i34, i35, i36, l37, s38, l39, l40]) [[l41, b42]] g43
  ((g43 → (Q (.agg [i7, i8, s12, s19, i20, s21, l22, i26, i33, i34, i35, i36, l37, s38, l39, l40]) [[l41, b42]])))))))))))))))))))))
theorem a106 (l1 : List (List PV)) (b2 : Bool) (Q : PV → Heap → Prop) (H : Value → Prop) (h : p106 l1 b2 Q H) : TCalls Tryz.prog 106 [(.ptr 0 0)] [[l1, b2]] Q H := by
  have hb : Option.some (bodyOf Tryz.f106) = Tryz.f106.body := by kernel_rfl
  exact tcalls_canon (res := [.agg [.int .i64, .int .i64, .str, .str, .int .i64, .str, .list, .int .i64, .int .i64, .int .i64, .int .i64, .int .i64, .list, .str, .list, .list]]) (post := [.cells [.list, .bool]]) (tcalls_eq (S := S) (L := loops60) mixed tok Tryz.func106 hb.symm (by kernel_rfl) h)
def p104 (l1 : List (List PV)) (b2 : Bool) (Q : PV → Heap → Prop) (H : Value → Prop) : Prop :=
∃ i3 : Int, ∃ s4 : ByteArray, ∃ i5 : Int, ∃ l6 : List (List PV), ∃ i7 : Int, ∃ i8 : Int, ∃ l9 : List (List PV), ∃ b10 : Bool, ∃ g11 : Prop, CallT Tryz.prog H True 115 [(.ptr 0 0)] [[l1, b2]] (.agg [i3, s4, i5, l6, i7, i8]) [[l9, b10]] g11
  ((g11 → (∃ s12 : ByteArray, ∃ l13 : List (List PV), ∃ b14 : Bool, ∃ g15 : Prop, CallT Tryz.prog H True 154 [(.ptr 0 0), (.fn 155 [])] [[l9, b10]] s12 [[l13, b14]] g15
  ((g15 → (∃ l16 : List (List PV), ∃ b17 : Bool, ∃ g18 : Prop, CallT Tryz.prog H True 118 [(.ptr 0 0), (.con (.string ⟨#[61]⟩))] [[l13, b14]] (.tup []) [[l16, b17]] g18
  ((g18 → (∃ l19 : List (List PV), ∃ l20 : List (List PV), ∃ b21 : Bool, ∃ g22 : Prop, CallT Tryz.prog H True 156 [(.ptr 0 0), (.con (.string ⟨#[124]⟩)), (.con (.int .i64 16)), (.bm 157 [(.ptr 0 0)])] [[l16, b17]] l19 [[l20, b21]] g22
  ((g22 → (Q (.agg [i7, i8, s12, l19]) [[l20, b21]]))))))))))))
theorem a104 (l1 : List (List PV)) (b2 : Bool) (Q : PV → Heap → Prop) (H : Value → Prop) (h : p104 l1 b2 Q H) : TCalls Tryz.prog 104 [(.ptr 0 0)] [[l1, b2]] Q H := by
  have hb : Option.some (bodyOf Tryz.f104) = Tryz.f104.body := by kernel_rfl
  exact tcalls_canon (res := [.agg [.int .i64, .int .i64, .str, .list]]) (post := [.cells [.list, .bool]]) (tcalls_eq (S := S) (L := loops60) mixed tok Tryz.func104 hb.symm (by kernel_rfl) h)
def p154t (l1 : List (List PV)) (b2 : Bool) (Q : PV → Heap → Prop) (H : Value → Prop) : Prop :=
∃ i3 : Int, ∃ s4 : ByteArray, ∃ i5 : Int, ∃ l6 : List (List PV), ∃ i7 : Int, ∃ i8 : Int, ∃ l9 : List (List PV), ∃ b10 : Bool, ∃ g11 : Prop, CallT Tryz.prog H True 133 [(.ptr 0 0), (.con (.int .i64 1))] [[l1, b2]] (.agg [i3, s4, i5, l6, i7, i8]) [[l9, b10]] g11
  ((g11 → (∃ b12 : Bool, CallN Tryz.prog 155 [s4] [[l9, b10], [.tip], [i3, s4, i5, l6, i7, i8]] b12
  (br (b12)
  (H (.iface 40 (.agg (List.toArray [(.int .i64 9), (.int .i64 i7), (.int .i64 i8)]))))
  (Q s4 [[l9, b10]])))))
theorem a154t (l1 : List (List PV)) (b2 : Bool) (Q : PV → Heap → Prop) (H : Value → Prop) (h : p154t l1 b2 Q H) : TCalls Tryz.prog 154 [(.ptr 0 0), (.fn 155 [])] [[l1, b2]] Q H := by
  have hb : Option.some (bodyOf Tryz.f154) = Tryz.f154.body := by kernel_rfl
  exact tcalls_canon (res := [.cell (.str)]) (post := [.cells [.list, .bool]]) (tcalls_eq (S := S) (L := loops60) mixed tok Tryz.func154 hb.symm (by kernel_rfl) h)
def p154o (l1 : List (List PV)) (b2 : Bool) (Q : PV → Heap → Prop) (H : Value → Prop) : Prop :=
∃ i3 : Int, ∃ s4 : ByteArray, ∃ i5 : Int, ∃ l6 : List (List PV), ∃ i7 : Int, ∃ i8 : Int, ∃ l9 : List (List PV), ∃ b10 : Bool, ∃ g11 : Prop, CallT Tryz.prog H True 133 [(.ptr 0 0), (.con (.int .i64 1))] [[l1, b2]] (.agg [i3, s4, i5, l6, i7, i8]) [[l9, b10]] g11
  ((g11 → (∃ b12 : Bool, CallN Tryz.prog 158 [s4] [[l9, b10], [.tip], [i3, s4, i5, l6, i7, i8]] b12
  (br (b12)
  (H (.iface 40 (.agg (List.toArray [(.int .i64 9), (.int .i64 i7), (.int .i64 i8)]))))
  (Q s4 [[l9, b10]])))))
theorem a154o (l1 : List (List PV)) (b2 : Bool) (Q : PV → Heap → Prop) (H : Value → Prop) (h : p154o l1 b2 Q H) : TCalls Tryz.prog 154 [(.ptr 0 0), (.fn 158 [])] [[l1, b2]] Q H := by
  have hb : Option.some (bodyOf Tryz.f154) = Tryz.f154.body := by kernel_rfl
  exact tcalls_canon (res := [.cell (.str)]) (post := [.cells [.list, .bool]]) (tcalls_eq (S := S) (L := loops60) mixed tok Tryz.func154 hb.symm (by kernel_rfl) h)
def loops156p (id : Nat) : Option (List Nat × List (Nat × Sh)) := match Nat.beq id 2 with | true => some ([0, 1, 2, 3], [(9, .own 0 138 2), (1000000, .list), (1000001, .bool)]) | false => none
def p156p (s1 : ByteArray) (i2 : Int) (l3 : List (List PV)) (b4 : Bool) (Q : PV → Heap → Prop) (H : Value → Prop) : Prop :=
∃ I5 : Nat → ((List (List PV)) × (List (List PV)) × (Bool) × Unit) → Prop, (∃ n, I5 n ([], l3, b4, ())) ∧ ∀ (n6 : Nat) (v7 : (List (List PV)) × (List (List PV)) × (Bool) × Unit), I5 n6 v7 →
  (∃ s8 : ByteArray, ∃ l9 : List (List PV), ∃ l10 : List (List PV), ∃ b11 : Bool, ∃ g12 : Prop, CallT Tryz.prog H True 157 [(.ptr 0 0)] [[v7.2.1, (.con (.bool (((List.length v7.1 : Int) : Int) == i2)))]] (.agg [s8, l9]) [[l10, b11]] g12
  ((g12 → (AppN v7.1 [[s8, l9]] 2 40 PV.one
  (∃ b13 : Bool, ∃ l14 : List (List PV), ∃ b15 : Bool, ∃ g16 : Prop, CallT Tryz.prog H True 119 [(.ptr 0 0), s1] [[l10, b11]] b13 [[l14, b15]] g16
  ((g16 → (br ((!b13))
  (Q (.sl (v7.1 ++ ([[s8, l9]] : List (List PV)))) [[l14, b15]])
  ((@Eq PV (.ptr 0 0) (.ptr 0 0) ∧ @Eq PV s1 s1 ∧ @Eq PV i2 i2 ∧ @Eq PV (.bm 157 [(.ptr 0 0)]) (.bm 157 [(.ptr 0 0)]) ∧ True) ∧ @Eq Heap [[l14, b15]] [[l14, b15]] ∧ ∃ k17, k17 < n6 ∧ I5 k17 ((v7.1 ++ ([[s8, l9]] : List (List PV))), l14, b15, ()))))))))))
theorem a156p (s1 : ByteArray) (i2 : Int) (l3 : List (List PV)) (b4 : Bool) (Q : PV → Heap → Prop) (H : Value → Prop) (h : p156p s1 i2 l3 b4 Q H) : TCalls Tryz.prog 156 [(.ptr 0 0), s1, i2, (.bm 157 [(.ptr 0 0)])] [[l3, b4]] Q H := by
  have hb : Option.some (bodyOf Tryz.f156) = Tryz.f156.body := by kernel_rfl
  exact tcalls_canon (res := [.cell (.list)]) (post := [.cells [.list, .bool]]) (tcalls_eq (S := S) (L := loops156p) mixed tok Tryz.func156 hb.symm (by kernel_rfl) h)
def loops185p (id : Nat) : Option (List Nat × List (Nat × Sh)) := match Nat.beq id 2 with | true => some ([0, 1, 2, 3], [(9, .own 0 84 4), (1000000, .list), (1000001, .bool)]) | false => none
def p185p (s1 : ByteArray) (i2 : Int) (l3 : List (List PV)) (b4 : Bool) (Q : PV → Heap → Prop) (H : Value → Prop) : Prop :=
∃ I5 : Nat → ((List (List PV)) × (List (List PV)) × (Bool) × Unit) → Prop, (∃ n, I5 n ([], l3, b4, ())) ∧ ∀ (n6 : Nat) (v7 : (List (List PV)) × (List (List PV)) × (Bool) × Unit), I5 n6 v7 →
  (∃ s8 : ByteArray, ∃ i9 : Int, ∃ s10 : ByteArray, ∃ l11 : List (List PV), ∃ l12 : List (List PV), ∃ b13 : Bool, ∃ g14 : Prop, CallT Tryz.prog H True 160 [(.ptr 0 0)] [[v7.2.1, (.con (.bool (((List.length v7.1 : Int) : Int) == i2)))]] (.agg [s8, i9, s10, l11]) [[l12, b13]] g14
  ((g14 → (AppN v7.1 [[s8, i9, s10, l11]] 4 64 PV.one
  (∃ b15 : Bool, ∃ l16 : List (List PV), ∃ b17 : Bool, ∃ g18 : Prop, CallT Tryz.prog H True 119 [(.ptr 0 0), s1] [[l12, b13]] b15 [[l16, b17]] g18
  ((g18 → (br ((!b15))
  (Q (.sl (v7.1 ++ ([[s8, i9, s10, l11]] : List (List PV)))) [[l16, b17]])
  ((@Eq PV (.ptr 0 0) (.ptr 0 0) ∧ @Eq PV s1 s1 ∧ @Eq PV i2 i2 ∧ @Eq PV (.bm 160 [(.ptr 0 0)]) (.bm 160 [(.ptr 0 0)]) ∧ True) ∧ @Eq Heap [[l16, b17]] [[l16, b17]] ∧ ∃ k19, k19 < n6 ∧ I5 k19 ((v7.1 ++ ([[s8, i9, s10, l11]] : List (List PV))), l16, b17, ()))))))))))
theorem a185p (s1 : ByteArray) (i2 : Int) (l3 : List (List PV)) (b4 : Bool) (Q : PV → Heap → Prop) (H : Value → Prop) (h : p185p s1 i2 l3 b4 Q H) : TCalls Tryz.prog 185 [(.ptr 0 0), s1, i2, (.bm 160 [(.ptr 0 0)])] [[l3, b4]] Q H := by
  have hb : Option.some (bodyOf Tryz.f185) = Tryz.f185.body := by kernel_rfl
  exact tcalls_canon (res := [.cell (.list)]) (post := [.cells [.list, .bool]]) (tcalls_eq (S := S) (L := loops185p) mixed tok Tryz.func185 hb.symm (by kernel_rfl) h)
def p159p (s1 : ByteArray) (i2 : Int) (l3 : List (List PV)) (b4 : Bool) (Q : PV → Heap → Prop) (H : Value → Prop) : Prop :=
∃ l5 : List (List PV), ∃ b6 : Bool, ∃ g7 : Prop, CallT Tryz.prog H True 118 [(.ptr 0 0), (.con (.string ⟨#[40]⟩))] [[l3, b4]] (.tup []) [[l5, b6]] g7
  ((g7 → (∃ l8 : List (List PV), ∃ l9 : List (List PV), ∃ b10 : Bool, ∃ g11 : Prop, CallT Tryz.prog H True 185 [(.ptr 0 0), s1, i2, (.bm 160 [(.ptr 0 0)])] [[l5, b6]] l8 [[l9, b10]] g11
  ((g11 → (∃ l12 : List (List PV), ∃ b13 : Bool, ∃ g14 : Prop, CallT Tryz.prog H True 118 [(.ptr 0 0), (.con (.string ⟨#[41]⟩))] [[l9, b10]] (.tup []) [[l12, b13]] g14
  ((g14 → (Q l8 [[l12, b13]])))))))))
theorem a159p (s1 : ByteArray) (i2 : Int) (l3 : List (List PV)) (b4 : Bool) (Q : PV → Heap → Prop) (H : Value → Prop) (h : p159p s1 i2 l3 b4 Q H) : TCalls Tryz.prog 159 [(.ptr 0 0), s1, i2, (.bm 160 [(.ptr 0 0)])] [[l3, b4]] Q H := by
  have hb : Option.some (bodyOf Tryz.f159) = Tryz.f159.body := by kernel_rfl
  exact tcalls_canon (res := [.cell (.list)]) (post := [.cells [.list, .bool]]) (tcalls_eq (S := S) (L := loops60) mixed tok Tryz.func159 hb.symm (by kernel_rfl) h)
end Go.Proofs.YtjhnmikciejekaaGreat.Deep

namespace Go.Proofs.YtjhnmikciejekaaGreat.Deep
open Go.RowKit
set_option linter.unusedVariables false
def p107q (l1 : List (List PV)) (b2 : Bool) (l3 l4 : List (List PV)) (i5 i6 i7 : Int) (s8 : ByteArray) (l9 : List (List PV)) (i10 i11 i12 i13 i14 : Int) (l15 : List (List PV)) (s16 : ByteArray) (l17 l18 l19 : List (List PV)) (b20 b21 b22 : Bool) (Q : PV → Heap → Prop) (H : Value → Prop) : Prop :=
∃ i23 : Int, ∃ s24 : ByteArray, ∃ i25 : Int, ∃ l26 : List (List PV), ∃ i27 : Int, ∃ i28 : Int, ∃ l29 : List (List PV), ∃ b30 : Bool, ∃ g31 : Prop, CallT Tryz.prog H True 115 [(.ptr 0 0)] [[l1, b2]] (.agg [i23, s24, i25, l26, i27, i28]) [[l29, b30]] g31
  ((g31 → (br (b20)
  (H (.iface 40 (.agg (List.toArray [(.int .i64 9), (.int .i64 i27), (.int .i64 i28)]))))
  (Q (.tup []) [[l29, b30], [(.own 2 79 4 l3), (.own 3 82 15 l4), i5, i6, i7, s8, l9, i10, i11, i12, i13, i14, l15, s16, l17, l18, (.own 4 86 16 l19), (.con (.bool true)), b21, b22], [.tip], [.tip], [.tip]]))))
theorem a107q (l1 : List (List PV)) (b2 : Bool) (l3 l4 : List (List PV)) (i5 i6 i7 : Int) (s8 : ByteArray) (l9 : List (List PV)) (i10 i11 i12 i13 i14 : Int) (l15 : List (List PV)) (s16 : ByteArray) (l17 l18 l19 : List (List PV)) (b20 b21 b22 : Bool) (Q : PV → Heap → Prop) (H : Value → Prop) (h : p107q l1 b2 l3 l4 i5 i6 i7 s8 l9 i10 i11 i12 i13 i14 l15 s16 l17 l18 l19 b20 b21 b22 Q H) : TCalls Tryz.prog 107 [(.ptr 0 0), (.ptr 1 17)] [[l1, b2], [(.own 2 79 4 l3), (.own 3 82 15 l4), i5, i6, i7, s8, l9, i10, i11, i12, i13, i14, l15, s16, l17, l18, (.own 4 86 16 l19), b20, b21, b22], [.tip], [.tip], [.tip]] Q H := by
  have hb : Option.some (bodyOf Tryz.f107) = Tryz.f107.body := by kernel_rfl
  exact tcalls_canon (res := []) (post := [.cells [.list, .bool], .cells [.own 2 79 4, .own 3 82 15, .int .i64, .int .i64, .int .i64, .str, .list, .int .i64, .int .i64, .int .i64, .int .i64, .int .i64, .list, .str, .list, .list, .own 4 86 16, .bool, .bool, .bool], .keep, .keep, .keep]) (tcalls_eq (S := S) (L := loops60) mixed tok Tryz.func107 hb.symm (by kernel_rfl) h)
def p107t (l1 : List (List PV)) (b2 : Bool) (l3 l4 : List (List PV)) (i5 i6 i7 : Int) (s8 : ByteArray) (l9 : List (List PV)) (i10 i11 i12 i13 i14 : Int) (l15 : List (List PV)) (s16 : ByteArray) (l17 l18 l19 : List (List PV)) (b20 b21 b22 : Bool) (Q : PV → Heap → Prop) (H : Value → Prop) : Prop :=
∃ i23 : Int, ∃ s24 : ByteArray, ∃ i25 : Int, ∃ l26 : List (List PV), ∃ i27 : Int, ∃ i28 : Int, ∃ l29 : List (List PV), ∃ b30 : Bool, ∃ g31 : Prop, CallT Tryz.prog H True 115 [(.ptr 0 0)] [[l1, b2]] (.agg [i23, s24, i25, l26, i27, i28]) [[l29, b30]] g31
  ((g31 → (br (b21)
  (H (.iface 40 (.agg (List.toArray [(.int .i64 9), (.int .i64 i27), (.int .i64 i28)]))))
  (Q (.tup []) [[l29, b30], [(.own 2 79 4 l3), (.own 3 82 15 l4), i5, i6, i7, s8, l9, i10, i11, i12, i13, i14, l15, s16, l17, l18, (.own 4 86 16 l19), b20, (.con (.bool true)), b22], [.tip], [.tip], [.tip]]))))
theorem a107t (l1 : List (List PV)) (b2 : Bool) (l3 l4 : List (List PV)) (i5 i6 i7 : Int) (s8 : ByteArray) (l9 : List (List PV)) (i10 i11 i12 i13 i14 : Int) (l15 : List (List PV)) (s16 : ByteArray) (l17 l18 l19 : List (List PV)) (b20 b21 b22 : Bool) (Q : PV → Heap → Prop) (H : Value → Prop) (h : p107t l1 b2 l3 l4 i5 i6 i7 s8 l9 i10 i11 i12 i13 i14 l15 s16 l17 l18 l19 b20 b21 b22 Q H) : TCalls Tryz.prog 107 [(.ptr 0 0), (.ptr 1 18)] [[l1, b2], [(.own 2 79 4 l3), (.own 3 82 15 l4), i5, i6, i7, s8, l9, i10, i11, i12, i13, i14, l15, s16, l17, l18, (.own 4 86 16 l19), b20, b21, b22], [.tip], [.tip], [.tip]] Q H := by
  have hb : Option.some (bodyOf Tryz.f107) = Tryz.f107.body := by kernel_rfl
  exact tcalls_canon (res := []) (post := [.cells [.list, .bool], .cells [.own 2 79 4, .own 3 82 15, .int .i64, .int .i64, .int .i64, .str, .list, .int .i64, .int .i64, .int .i64, .int .i64, .int .i64, .list, .str, .list, .list, .own 4 86 16, .bool, .bool, .bool], .keep, .keep, .keep]) (tcalls_eq (S := S) (L := loops60) mixed tok Tryz.func107 hb.symm (by kernel_rfl) h)
def p107s (l1 : List (List PV)) (b2 : Bool) (l3 l4 : List (List PV)) (i5 i6 i7 : Int) (s8 : ByteArray) (l9 : List (List PV)) (i10 i11 i12 i13 i14 : Int) (l15 : List (List PV)) (s16 : ByteArray) (l17 l18 l19 : List (List PV)) (b20 b21 b22 : Bool) (Q : PV → Heap → Prop) (H : Value → Prop) : Prop :=
∃ i23 : Int, ∃ s24 : ByteArray, ∃ i25 : Int, ∃ l26 : List (List PV), ∃ i27 : Int, ∃ i28 : Int, ∃ l29 : List (List PV), ∃ b30 : Bool, ∃ g31 : Prop, CallT Tryz.prog H True 115 [(.ptr 0 0)] [[l1, b2]] (.agg [i23, s24, i25, l26, i27, i28]) [[l29, b30]] g31
  ((g31 → (br (b22)
  (H (.iface 40 (.agg (List.toArray [(.int .i64 9), (.int .i64 i27), (.int .i64 i28)]))))
  (Q (.tup []) [[l29, b30], [(.own 2 79 4 l3), (.own 3 82 15 l4), i5, i6, i7, s8, l9, i10, i11, i12, i13, i14, l15, s16, l17, l18, (.own 4 86 16 l19), b20, b21, (.con (.bool true))], [.tip], [.tip], [.tip]]))))
theorem a107s (l1 : List (List PV)) (b2 : Bool) (l3 l4 : List (List PV)) (i5 i6 i7 : Int) (s8 : ByteArray) (l9 : List (List PV)) (i10 i11 i12 i13 i14 : Int) (l15 : List (List PV)) (s16 : ByteArray) (l17 l18 l19 : List (List PV)) (b20 b21 b22 : Bool) (Q : PV → Heap → Prop) (H : Value → Prop) (h : p107s l1 b2 l3 l4 i5 i6 i7 s8 l9 i10 i11 i12 i13 i14 l15 s16 l17 l18 l19 b20 b21 b22 Q H) : TCalls Tryz.prog 107 [(.ptr 0 0), (.ptr 1 19)] [[l1, b2], [(.own 2 79 4 l3), (.own 3 82 15 l4), i5, i6, i7, s8, l9, i10, i11, i12, i13, i14, l15, s16, l17, l18, (.own 4 86 16 l19), b20, b21, b22], [.tip], [.tip], [.tip]] Q H := by
  have hb : Option.some (bodyOf Tryz.f107) = Tryz.f107.body := by kernel_rfl
  exact tcalls_canon (res := []) (post := [.cells [.list, .bool], .cells [.own 2 79 4, .own 3 82 15, .int .i64, .int .i64, .int .i64, .str, .list, .int .i64, .int .i64, .int .i64, .int .i64, .int .i64, .list, .str, .list, .list, .own 4 86 16, .bool, .bool, .bool], .keep, .keep, .keep]) (tcalls_eq (S := S) (L := loops60) mixed tok Tryz.func107 hb.symm (by kernel_rfl) h)
end Go.Proofs.YtjhnmikciejekaaGreat.Deep

namespace Go.Proofs.YtjhnmikciejekaaGreat.Deep
open Go.RowKit
set_option linter.unusedVariables false
def p59 (l1 : List (List PV)) (b2 : Bool) (l3 l4 : List (List PV)) (i5 i6 i7 : Int) (s8 : ByteArray) (l9 : List (List PV)) (i10 i11 i12 i13 i14 : Int) (l15 : List (List PV)) (s16 : ByteArray) (l17 l18 l19 : List (List PV)) (b20 b21 b22 : Bool) (Q : PV → Heap → Prop) (H : Value → Prop) : Prop :=
∃ s23 : ByteArray, CallF Tryz.prog 71 [(.ptr 0 0)] [[l1, b2]] s23 [[l1, b2]]
  (br ((ByteArray.toList s23 == ByteArray.toList ⟨#[116, 121, 112, 101]⟩))
  (∃ i24 : Int, ∃ i25 : Int, ∃ s26 : ByteArray, ∃ l27 : List (List PV), ∃ l28 : List (List PV), ∃ b29 : Bool, ∃ g30 : Prop, CallT Tryz.prog H True 104 [(.ptr 0 0)] [[l1, (.con (.bool (((List.length l3 : Int) : Int) == 32)))]] (.agg [i24, i25, s26, l27]) [[l28, b29]] g30
  (AppNG (g30) l3 [[i24, i25, s26, l27]] 4 56 PV.one
  ((g30 → (Q (.tup []) [[l28, b29], [(.own 5 79 4 (l3 ++ ([[i24, i25, s26, l27]] : List (List PV)))), (.own 6 82 15 l4), i5, i6, i7, s8, l9, i10, i11, i12, i13, i14, l15, s16, l17, l18, (.own 7 86 16 l19), b20, b21, b22], [], [], [], [.tip], [.tip], [.tip]])))))
  (br ((ByteArray.toList s23 == ByteArray.toList ⟨#[102, 117, 110]⟩))
  (∃ i31 : Int, ∃ i32 : Int, ∃ s33 : ByteArray, ∃ l34 : List (List PV), ∃ i35 : Int, ∃ s36 : ByteArray, ∃ l37 : List (List PV), ∃ i38 : Int, ∃ i39 : Int, ∃ i40 : Int, ∃ i41 : Int, ∃ l42 : List (List PV), ∃ s43 : ByteArray, ∃ l44 : List (List PV), ∃ l45 : List (List PV), ∃ l46 : List (List PV), ∃ b47 : Bool, ∃ g48 : Prop, CallT Tryz.prog H True 105 [(.ptr 0 0)] [[l1, (.con (.bool (((List.length l4 : Int) : Int) == 48)))]] (.agg [i31, i32, s33, l34, i35, s36, l37, i38, i39, i40, i41, l42, s43, l44, l45]) [[l46, b47]] g48
  (AppNG (g48) l4 [[i31, i32, s33, l34, i35, s36, l37, i38, i39, i40, i41, l42, s43, l44, l45]] 15 224 PV.one
  ((g48 → (Q (.tup []) [[l46, b47], [(.own 5 79 4 l3), (.own 6 82 15 (l4 ++ ([[i31, i32, s33, l34, i35, s36, l37, i38, i39, i40, i41, l42, s43, l44, l45]] : List (List PV)))), i5, i6, i7, s8, l9, i10, i11, i12, i13, i14, l15, s16, l17, l18, (.own 7 86 16 l19), b20, b21, b22], [], [], [], [.tip], [.tip], [.tip]])))))
  (br ((ByteArray.toList s23 == ByteArray.toList ⟨#[111, 110]⟩))
  (∃ i49 : Int, ∃ i50 : Int, ∃ s51 : ByteArray, ∃ s52 : ByteArray, ∃ i53 : Int, ∃ s54 : ByteArray, ∃ l55 : List (List PV), ∃ i56 : Int, ∃ i57 : Int, ∃ i58 : Int, ∃ i59 : Int, ∃ i60 : Int, ∃ l61 : List (List PV), ∃ s62 : ByteArray, ∃ l63 : List (List PV), ∃ l64 : List (List PV), ∃ l65 : List (List PV), ∃ b66 : Bool, ∃ g67 : Prop, CallT Tryz.prog H True 106 [(.ptr 0 0)] [[l1, (.con (.bool (((List.length l19 : Int) : Int) == 16)))]] (.agg [i49, i50, s51, s52, i53, s54, l55, i56, i57, i58, i59, i60, l61, s62, l63, l64]) [[l65, b66]] g67
  (AppNG (g67) l19 [[i49, i50, s51, s52, i53, s54, l55, i56, i57, i58, i59, i60, l61, s62, l63, l64]] 16 224 PV.one
  ((g67 → (Q (.tup []) [[l65, b66], [(.own 5 79 4 l3), (.own 6 82 15 l4), i5, i6, i7, s8, l9, i10, i11, i12, i13, i14, l15, s16, l17, l18, (.own 7 86 16 (l19 ++ ([[i49, i50, s51, s52, i53, s54, l55, i56, i57, i58, i59, i60, l61, s62, l63, l64]] : List (List PV)))), b20, b21, b22], [], [], [], [.tip], [.tip], [.tip]])))))
  (br ((ByteArray.toList s23 == ByteArray.toList ⟨#[113, 117, 101, 117, 101]⟩))
  (∃ l68 : List (List PV), ∃ b69 : Bool, ∃ l70 : List (List PV), ∃ l71 : List (List PV), ∃ i72 : Int, ∃ i73 : Int, ∃ i74 : Int, ∃ s75 : ByteArray, ∃ l76 : List (List PV), ∃ i77 : Int, ∃ i78 : Int, ∃ i79 : Int, ∃ i80 : Int, ∃ i81 : Int, ∃ l82 : List (List PV), ∃ s83 : ByteArray, ∃ l84 : List (List PV), ∃ l85 : List (List PV), ∃ l86 : List (List PV), ∃ b87 : Bool, ∃ b88 : Bool, ∃ b89 : Bool, ∃ g90 : Prop, CallT Tryz.prog H True 107 [(.ptr 0 0), (.ptr 1 17)] [[l1, b2], [(.own 2 79 4 l3), (.own 3 82 15 l4), i5, i6, i7, s8, l9, i10, i11, i12, i13, i14, l15, s16, l17, l18, (.own 4 86 16 l19), b20, b21, b22], [.tip], [.tip], [.tip]] (.tup []) [[l68, b69], [(.own 2 79 4 l70), (.own 3 82 15 l71), i72, i73, i74, s75, l76, i77, i78, i79, i80, i81, l82, s83, l84, l85, (.own 4 86 16 l86), b87, b88, b89], [.tip], [.tip], [.tip]] g90
  ((g90 → (∃ i91 : Int, ∃ l92 : List (List PV), ∃ b93 : Bool, ∃ g94 : Prop, CallT Tryz.prog H True 108 [(.ptr 0 0), (.con (.int .i64 1)), (.con (.int .i64 32))] [[l68, b69]] i91 [[l92, b93]] g94
  ((g94 → (Q (.tup []) [[l92, b93], [(.own 5 79 4 l70), (.own 6 82 15 l71), i91, i73, i74, s75, l76, i77, i78, i79, i80, i81, l82, s83, l84, l85, (.own 7 86 16 l86), b87, b88, b89], [], [], [], [.tip], [.tip], [.tip]])))))))
  (br ((ByteArray.toList s23 == ByteArray.toList ⟨#[116, 105, 109, 101, 114, 115]⟩))
  (∃ l95 : List (List PV), ∃ b96 : Bool, ∃ l97 : List (List PV), ∃ l98 : List (List PV), ∃ i99 : Int, ∃ i100 : Int, ∃ i101 : Int, ∃ s102 : ByteArray, ∃ l103 : List (List PV), ∃ i104 : Int, ∃ i105 : Int, ∃ i106 : Int, ∃ i107 : Int, ∃ i108 : Int, ∃ l109 : List (List PV), ∃ s110 : ByteArray, ∃ l111 : List (List PV), ∃ l112 : List (List PV), ∃ l113 : List (List PV), ∃ b114 : Bool, ∃ b115 : Bool, ∃ b116 : Bool, ∃ g117 : Prop, CallT Tryz.prog H True 107 [(.ptr 0 0), (.ptr 1 18)] [[l1, b2], [(.own 2 79 4 l3), (.own 3 82 15 l4), i5, i6, i7, s8, l9, i10, i11, i12, i13, i14, l15, s16, l17, l18, (.own 4 86 16 l19), b20, b21, b22], [.tip], [.tip], [.tip]] (.tup []) [[l95, b96], [(.own 2 79 4 l97), (.own 3 82 15 l98), i99, i100, i101, s102, l103, i104, i105, i106, i107, i108, l109, s110, l111, l112, (.own 4 86 16 l113), b114, b115, b116], [.tip], [.tip], [.tip]] g117
  ((g117 → (∃ i118 : Int, ∃ l119 : List (List PV), ∃ b120 : Bool, ∃ g121 : Prop, CallT Tryz.prog H True 108 [(.ptr 0 0), (.con (.int .i64 0)), (.con (.int .i64 32))] [[l95, b96]] i118 [[l119, b120]] g121
  ((g121 → (Q (.tup []) [[l119, b120], [(.own 5 79 4 l97), (.own 6 82 15 l98), i99, i118, i101, s102, l103, i104, i105, i106, i107, i108, l109, s110, l111, l112, (.own 7 86 16 l113), b114, b115, b116], [], [], [], [.tip], [.tip], [.tip]])))))))
  (br ((ByteArray.toList s23 == ByteArray.toList ⟨#[115, 116, 97, 116, 101]⟩))
  (∃ l122 : List (List PV), ∃ b123 : Bool, ∃ l124 : List (List PV), ∃ l125 : List (List PV), ∃ i126 : Int, ∃ i127 : Int, ∃ i128 : Int, ∃ s129 : ByteArray, ∃ l130 : List (List PV), ∃ i131 : Int, ∃ i132 : Int, ∃ i133 : Int, ∃ i134 : Int, ∃ i135 : Int, ∃ l136 : List (List PV), ∃ s137 : ByteArray, ∃ l138 : List (List PV), ∃ l139 : List (List PV), ∃ l140 : List (List PV), ∃ b141 : Bool, ∃ b142 : Bool, ∃ b143 : Bool, ∃ g144 : Prop, CallT Tryz.prog H True 107 [(.ptr 0 0), (.ptr 1 19)] [[l1, b2], [(.own 2 79 4 l3), (.own 3 82 15 l4), i5, i6, i7, s8, l9, i10, i11, i12, i13, i14, l15, s16, l17, l18, (.own 4 86 16 l19), b20, b21, b22], [.tip], [.tip], [.tip]] (.tup []) [[l122, b123], [(.own 2 79 4 l124), (.own 3 82 15 l125), i126, i127, i128, s129, l130, i131, i132, i133, i134, i135, l136, s137, l138, l139, (.own 4 86 16 l140), b141, b142, b143], [.tip], [.tip], [.tip]] g144
  ((g144 → (∃ i145 : Int, ∃ s146 : ByteArray, ∃ l147 : List (List PV), ∃ l148 : List (List PV), ∃ b149 : Bool, ∃ g150 : Prop, CallT Tryz.prog H True 36 [(.ptr 0 0)] [[l122, b123]] (.agg [i145, s146, l147]) [[l148, b149]] g150
  ((g150 → (∃ i151 : Int, ∃ l152 : List (List PV), ∃ b153 : Bool, ∃ g154 : Prop, CallT Tryz.prog H True 109 [(.ptr 0 0), (.con (.int .i64 256))] [[l148, b149]] i151 [[l152, b153]] g154
  ((g154 → (∃ i155 : Int, ∃ i156 : Int, ∃ i157 : Int, ∃ i158 : Int, ∃ l159 : List (List PV), ∃ s160 : ByteArray, ∃ l161 : List (List PV), ∃ l162 : List (List PV), ∃ l163 : List (List PV), ∃ b164 : Bool, ∃ g165 : Prop, CallT Tryz.prog H True 110 [(.ptr 0 0)] [[l152, b153]] (.agg [i155, i156, i157, i158, l159, s160, l161, l162]) [[l163, b164]] g165
  ((g165 → (Q (.tup []) [[l163, b164], [(.own 5 79 4 l124), (.own 6 82 15 l125), i126, i127, i145, s146, l147, i151, i155, i156, i157, i158, l159, s160, l161, l162, (.own 7 86 16 l140), b141, b142, b143], [], [], [], [.tip], [.tip], [.tip]])))))))))))))
  (∃ i166 : Int, ∃ i167 : Int, ∃ i168 : Int, CallF Tryz.prog 103 [(.ptr 0 0)] [[l1, b2]] (.agg [i166, i167, i168]) [[l1, b2]]
  (H (.iface 40 (.agg (List.toArray [(.int .i64 i166), (.int .i64 i167), (.int .i64 i168)])))))))))))
theorem a59 (l1 : List (List PV)) (b2 : Bool) (l3 l4 : List (List PV)) (i5 i6 i7 : Int) (s8 : ByteArray) (l9 : List (List PV)) (i10 i11 i12 i13 i14 : Int) (l15 : List (List PV)) (s16 : ByteArray) (l17 l18 l19 : List (List PV)) (b20 b21 b22 : Bool) (Q : PV → Heap → Prop) (H : Value → Prop) (h : p59 l1 b2 l3 l4 i5 i6 i7 s8 l9 i10 i11 i12 i13 i14 l15 s16 l17 l18 l19 b20 b21 b22 Q H) : TCalls Tryz.prog 59 [(.ptr 0 0), (.ptr 1 0)] [[l1, b2], [(.own 2 79 4 l3), (.own 3 82 15 l4), i5, i6, i7, s8, l9, i10, i11, i12, i13, i14, l15, s16, l17, l18, (.own 4 86 16 l19), b20, b21, b22], [.tip], [.tip], [.tip]] Q H := by
  have hb : Option.some (bodyOf Tryz.f59) = Tryz.f59.body := by kernel_rfl
  exact tcalls_canon (res := []) (post := [.cells [.list, .bool], .cells [.own 5 79 4, .own 6 82 15, .int .i64, .int .i64, .int .i64, .str, .list, .int .i64, .int .i64, .int .i64, .int .i64, .int .i64, .list, .str, .list, .list, .own 7 86 16, .bool, .bool, .bool], .dead, .dead, .dead, .tip, .tip, .tip]) (tcalls_eq (S := S) (L := loops60) mixed tok Tryz.func59 hb.symm (by kernel_rfl) h)
end Go.Proofs.YtjhnmikciejekaaGreat.Deep

namespace Go.Proofs.YtjhnmikciejekaaGreat.Deep
open Go.RowKit
set_option linter.unusedVariables false
def loops26 (id : Nat) : Option (List Nat × List (Nat × Sh)) := match Nat.beq id 2 with | true => some ([0, 2, 3], [(1000000, .list), (1000001, .bool), (1002000, .own 0 79 4), (1002001, .own 1 82 15), (1002002, .int .i64), (1002003, .int .i64), (1002004, .int .i64), (1002005, .str), (1002006, .list), (1002007, .int .i64), (1002008, .int .i64), (1002009, .int .i64), (1002010, .int .i64), (1002011, .int .i64), (1002012, .list), (1002013, .str), (1002014, .list), (1002015, .list), (1002016, .own 2 86 16), (1002017, .bool), (1002018, .bool), (1002019, .bool)]) | false => none
def p26 (l1 : List (List PV)) (b2 : Bool) (Q : PV → Heap → Prop) (H : Value → Prop) : Prop :=
∃ I3 : Nat → ((List (List PV)) × (Bool) × (List (List PV)) × (List (List PV)) × (Int) × (Int) × (Int) × (ByteArray) × (List (List PV)) × (Int) × (Int) × (Int) × (Int) × (Int) × (List (List PV)) × (ByteArray) × (List (List PV)) × (List (List PV)) × (List (List PV)) × (Bool) × (Bool) × (Bool) × Unit) → Prop, (∃ n, I3 n (l1, b2, [], [], 0, 0, 0, ⟨#[]⟩, [], 0, 0, 0, 0, 0, [], ⟨#[]⟩, [], [], [], false, false, false, ())) ∧ ∀ (n4 : Nat) (v5 : (List (List PV)) × (Bool) × (List (List PV)) × (List (List PV)) × (Int) × (Int) × (Int) × (ByteArray) × (List (List PV)) × (Int) × (Int) × (Int) × (Int) × (Int) × (List (List PV)) × (ByteArray) × (List (List PV)) × (List (List PV)) × (List (List PV)) × (Bool) × (Bool) × (Bool) × Unit), I3 n4 v5 →
  (∃ b6 : Bool, CallF Tryz.prog 58 [(.ptr 0 0)] [[v5.1, v5.2.1]] b6 [[v5.1, v5.2.1]]
  (br ((!b6))
  (∃ l7 : List (List PV), ∃ b8 : Bool, ∃ l9 : List (List PV), ∃ l10 : List (List PV), ∃ i11 : Int, ∃ i12 : Int, ∃ i13 : Int, ∃ s14 : ByteArray, ∃ l15 : List (List PV), ∃ i16 : Int, ∃ i17 : Int, ∃ i18 : Int, ∃ i19 : Int, ∃ i20 : Int, ∃ l21 : List (List PV), ∃ s22 : ByteArray, ∃ l23 : List (List PV), ∃ l24 : List (List PV), ∃ l25 : List (List PV), ∃ b26 : Bool, ∃ b27 : Bool, ∃ b28 : Bool, ∃ g29 : Prop, CallT Tryz.prog H True 59 [(.ptr 0 0), (.ptr 1 0)] [[v5.1, v5.2.1], [(.own 2 79 4 v5.2.2.1), (.own 3 82 15 v5.2.2.2.1), v5.2.2.2.2.1, v5.2.2.2.2.2.1, v5.2.2.2.2.2.2.1, v5.2.2.2.2.2.2.2.1, v5.2.2.2.2.2.2.2.2.1, v5.2.2.2.2.2.2.2.2.2.1, v5.2.2.2.2.2.2.2.2.2.2.1, v5.2.2.2.2.2.2.2.2.2.2.2.1, v5.2.2.2.2.2.2.2.2.2.2.2.2.1, v5.2.2.2.2.2.2.2.2.2.2.2.2.2.1, v5.2.2.2.2.2.2.2.2.2.2.2.2.2.2.1, v5.2.2.2.2.2.2.2.2.2.2.2.2.2.2.2.1, v5.2.2.2.2.2.2.2.2.2.2.2.2.2.2.2.2.1, v5.2.2.2.2.2.2.2.2.2.2.2.2.2.2.2.2.2.1, (.own 4 86 16 v5.2.2.2.2.2.2.2.2.2.2.2.2.2.2.2.2.2.2.1), v5.2.2.2.2.2.2.2.2.2.2.2.2.2.2.2.2.2.2.2.1, v5.2.2.2.2.2.2.2.2.2.2.2.2.2.2.2.2.2.2.2.2.1, v5.2.2.2.2.2.2.2.2.2.2.2.2.2.2.2.2.2.2.2.2.2.1], [.tip], [.tip], [.tip]] (.tup []) [[l7, b8], [(.own 5 79 4 l9), (.own 6 82 15 l10), i11, i12, i13, s14, l15, i16, i17, i18, i19, i20, l21, s22, l23, l24, (.own 7 86 16 l25), b26, b27, b28], [], [], [], [.tip], [.tip], [.tip]] g29
  ((g29 → ((@Eq PV (.ptr 0 0) (.ptr 0 0) ∧ @Eq PV (.ptr 1 0) (.ptr 1 0) ∧ @Eq PV (.ptr 2 0) (.ptr 2 0) ∧ True) ∧ @Eq Heap [[l7, b8], [(.con (.slice none 0 0)), (.con (.slice none 0 0)), (.con (.int .i64 0)), (.con (.int .i64 0)), (.con (.int .i64 0)), (.con (.string ⟨#[]⟩)), (.con (.slice none 0 0)), (.con (.int .i64 0)), (.con (.int .i64 0)), (.con (.int .i64 0)), (.con (.int .i64 0)), (.con (.int .i64 0)), (.con (.slice none 0 0)), (.con (.string ⟨#[]⟩)), (.con (.slice none 0 0)), (.con (.slice none 0 0)), (.con (.slice none 0 0))], [(.own 3 79 4 l9), (.own 4 82 15 l10), i11, i12, i13, s14, l15, i16, i17, i18, i19, i20, l21, s22, l23, l24, (.own 5 86 16 l25), b26, b27, b28]] [[l7, b8], [(.con (.slice none 0 0)), (.con (.slice none 0 0)), (.con (.int .i64 0)), (.con (.int .i64 0)), (.con (.int .i64 0)), (.con (.string ⟨#[]⟩)), (.con (.slice none 0 0)), (.con (.int .i64 0)), (.con (.int .i64 0)), (.con (.int .i64 0)), (.con (.int .i64 0)), (.con (.int .i64 0)), (.con (.slice none 0 0)), (.con (.string ⟨#[]⟩)), (.con (.slice none 0 0)), (.con (.slice none 0 0)), (.con (.slice none 0 0))], [(.own 3 79 4 l9), (.own 4 82 15 l10), i11, i12, i13, s14, l15, i16, i17, i18, i19, i20, l21, s22, l23, l24, (.own 5 86 16 l25), b26, b27, b28]] ∧ ∃ k30, k30 < n4 ∧ I3 k30 (l7, b8, l9, l10, i11, i12, i13, s14, l15, i16, i17, i18, i19, i20, l21, s22, l23, l24, l25, b26, b27, b28, ())))))
  (br ((!v5.2.2.2.2.2.2.2.2.2.2.2.2.2.2.2.2.2.2.2.1))
  (∃ i31 : Int, ∃ s32 : ByteArray, ∃ i33 : Int, ∃ l34 : List (List PV), ∃ i35 : Int, ∃ i36 : Int, CallF Tryz.prog 60 [(.ptr 0 0)] [[v5.1, v5.2.1]] (.agg [i31, s32, i33, l34, i35, i36]) [[v5.1, v5.2.1]]
  (H (.iface 40 (.agg (List.toArray [(.int .i64 18), (.int .i64 i35), (.int .i64 i36)])))))
  (br ((!v5.2.2.2.2.2.2.2.2.2.2.2.2.2.2.2.2.2.2.2.2.2.1))
  (∃ i37 : Int, ∃ s38 : ByteArray, ∃ i39 : Int, ∃ l40 : List (List PV), ∃ i41 : Int, ∃ i42 : Int, CallF Tryz.prog 60 [(.ptr 0 0)] [[v5.1, v5.2.1]] (.agg [i37, s38, i39, l40, i41, i42]) [[v5.1, v5.2.1]]
  (H (.iface 40 (.agg (List.toArray [(.int .i64 18), (.int .i64 i41), (.int .i64 i42)])))))
  (Q (.agg [v5.2.2.1, v5.2.2.2.1, v5.2.2.2.2.1, v5.2.2.2.2.2.1, v5.2.2.2.2.2.2.1, v5.2.2.2.2.2.2.2.1, v5.2.2.2.2.2.2.2.2.1, v5.2.2.2.2.2.2.2.2.2.1, v5.2.2.2.2.2.2.2.2.2.2.1, v5.2.2.2.2.2.2.2.2.2.2.2.1, v5.2.2.2.2.2.2.2.2.2.2.2.2.1, v5.2.2.2.2.2.2.2.2.2.2.2.2.2.1, v5.2.2.2.2.2.2.2.2.2.2.2.2.2.2.1, v5.2.2.2.2.2.2.2.2.2.2.2.2.2.2.2.1, v5.2.2.2.2.2.2.2.2.2.2.2.2.2.2.2.2.1, v5.2.2.2.2.2.2.2.2.2.2.2.2.2.2.2.2.2.1, v5.2.2.2.2.2.2.2.2.2.2.2.2.2.2.2.2.2.2.1]) [[v5.1, v5.2.1]])))))
theorem e26 (l1 : List (List PV)) (b2 : Bool) (Q : PV → Heap → Prop) (H : Value → Prop) : funA Tryz.prog T S loops26 H Tryz.f26 (bodyOf Tryz.f26) [(.ptr 0 0)] [[l1, b2]] (fun r h' => canX ([[l1, b2]] : Heap).length [.agg [.list, .list, .int .i64, .int .i64, .int .i64, .str, .list, .int .i64, .int .i64, .int .i64, .int .i64, .int .i64, .list, .str, .list, .list, .list]] [.cells [.list, .bool]] r h' Q) = p26 l1 b2 Q H := by kernel_rfl
theorem a26 (l1 : List (List PV)) (b2 : Bool) (Q : PV → Heap → Prop) (H : Value → Prop) (h : p26 l1 b2 Q H) : TCalls Tryz.prog 26 [(.ptr 0 0)] [[l1, b2]] Q H := by
  have hb : Option.some (bodyOf Tryz.f26) = Tryz.f26.body := by kernel_rfl
  exact tcalls_canon (res := [.agg [.list, .list, .int .i64, .int .i64, .int .i64, .str, .list, .int .i64, .int .i64, .int .i64, .int .i64, .int .i64, .list, .str, .list, .list, .list]]) (post := [.cells [.list, .bool]]) (tcalls_eq (S := S) (L := loops26) mixed tok Tryz.func26 hb.symm (e26 l1 b2 Q H) h)
end Go.Proofs.YtjhnmikciejekaaGreat.Deep

namespace Go.Proofs.YtjhnmikciejekaaGreat.Deep
open Go.RowKit
set_option linter.unusedVariables false
set_option linter.unusedSimpArgs false
set_option linter.unusedSectionVars false
section
variable (z : Tk)
def limitS (most : Int) : Rd Int := fun l b => bnd (wantS z ⟨#[99, 97, 112]⟩ l b) fun _ l b => bnd (manyS z 0 most l b) fun n l b => .ok (n, l, b)
def freshS (taken : ByteArray → Bool) : Rd ByteArray := fun l b => bnd (kindS z 1 l b) fun t l b => ifB (taken t.text) (.error ⟨9, t.li, t.co⟩) (.ok (t.text, l, b))
def paramS (ty : Rd Ty) : Rd Pa := fun l b => bnd (lowS z l b) fun s l b => bnd (wantS z ⟨#[58]⟩ l b) fun _ l b => bnd (ty l b) fun t l b => .ok (⟨s, t⟩, l, b)
def conS (ty : Rd Ty) : Rd Co := fun l b => bnd (kindS z 2 l b) fun t l b => bnd (skipS z ⟨#[111, 102]⟩ l b) fun o l b => ifB o (bnd (lisS z ty ⟨#[42]⟩ 6 l b) fun ks l b => .ok (⟨t.text, ks⟩, l, b)) (.ok (⟨t.text, []⟩, l, b))
def bodyS (ex : Rd Ex) : Rd Ex := fun l b => bnd (behindS z ex ⟨#[61]⟩ l b) fun v l b => .ok (v, l, b)
def funS (ty : Rd Ty) (ex : Rd Ex) : Rd Fu := fun l b => bnd (takeS z l b) fun t l b => bnd (freshS z isOwnB l b) fun s l b => bnd (insideS z (paramS z ty) ⟨#[44]⟩ 6 l b) fun ps l b => bnd (wantS z ⟨#[58]⟩ l b) fun _ l b => bnd (ty l b) fun r l b => bnd (bodyS z ex l b) fun e l b => .ok (⟨t.li, t.co, s, ps, r, e⟩, l, b)
def handS (ty : Rd Ty) (ex : Rd Ex) : Rd Ha := fun l b => bnd (takeS z l b) fun t l b => bnd (lowS z l b) fun s l b => bnd (wantS z ⟨#[40]⟩ l b) fun _ l b => bnd (paramS z ty l b) fun p l b => bnd (limitS z 64 l b) fun c l b => bnd (wantS z ⟨#[41]⟩ l b) fun _ l b => bnd (bodyS z ex l b) fun e l b => .ok (⟨t.li, t.co, s, p, c, e⟩, l, b)
def dataS (ty : Rd Ty) : Rd Da := fun l b => bnd (takeS z l b) fun t l b => bnd (freshS z isTypeB l b) fun s l b => bnd (wantS z ⟨#[61]⟩ l b) fun _ l b => bnd (lisS z (conS z ty) ⟨#[124]⟩ 16 l b) fun cs l b => .ok (⟨t.li, t.co, s, cs⟩, l, b)
end
def coPs (l : List Co) : List (List PV) := l.map coP
def paPs (l : List Pa) : List (List PV) := l.map paP
theorem coPs_app (a b : List Co) : coPs (a ++ b) = coPs a ++ coPs b := by simp [coPs]
theorem paPs_app (a b : List Pa) : paPs (a ++ b) = paPs a ++ paPs b := by simp [paPs]
theorem coPs_len (a : List Co) : (coPs a).length = a.length := by simp [coPs]
theorem paPs_len (a : List Pa) : (paPs a).length = a.length := by simp [paPs]
theorem spO {β : Type} {z : Tk} {f : FuncId} {args : List PV} {x : Re Co} {l : List Tk} {b : Bool} {S : Re β} {k : Co → List Tk → Bool → Re β} (c : CT z f args (fun v => .agg (coP v)) x l b) (he : Enters Tryz.prog f) (hS : S = bnd x k) {R : ByteArray → List (List PV) → List (List PV) → Bool → Prop}
    (hk : ∀ n ks l' b', x = .ok (⟨n, ks⟩, l', b') → S = k ⟨n, ks⟩ l' b' → R n (tyPs ks) (tksP z l') b') :
    ∃ n' : ByteArray, ∃ ks' : List (List PV), ∃ l'' : List (List PV), ∃ b'' : Bool, ∃ g : Prop, CallT Tryz.prog (HF S) True f args [[.sl (tksP z l), .con (.bool b)]] (.agg [.con (.string n'), .sl ks']) [[.sl l'', .con (.bool b'')]] g (g → R n' ks' l'' b'') := by
  cases hx : x with
  | ok y =>
    obtain ⟨⟨n, ks⟩, l', b'⟩ := y
    exact ⟨n, (tyPs ks), tksP z l', b', True, ⟨he, fun _ => c.tells hx, fun _ => hk n ks l' b' hx (by rw [hS, hx]; rfl)⟩⟩
  | error ft => exact ⟨e0, [], [], false, False, ⟨he, fun _ => c.throws hS hx _ _, fun h => h.elim⟩⟩
theorem spQ {β : Type} {z : Tk} {f : FuncId} {args : List PV} {x : Re Pa} {l : List Tk} {b : Bool} {S : Re β} {k : Pa → List Tk → Bool → Re β} (c : CT z f args (fun v => .agg (paP v)) x l b) (he : Enters Tryz.prog f) (hS : S = bnd x k) {R : ByteArray → Int → ByteArray → List (List PV) → List (List PV) → Bool → Prop}
    (hk : ∀ s k0 n ks l' b', x = .ok (⟨s, .mk k0 n ks⟩, l', b') → S = k ⟨s, .mk k0 n ks⟩ l' b' → R s k0 n (tyPs ks) (tksP z l') b') :
    ∃ s' : ByteArray, ∃ k0' : Int, ∃ n' : ByteArray, ∃ ks' : List (List PV), ∃ l'' : List (List PV), ∃ b'' : Bool, ∃ g : Prop, CallT Tryz.prog (HF S) True f args [[.sl (tksP z l), .con (.bool b)]] (.agg [.con (.string s'), .con (.int .i64 k0'), .con (.string n'), .sl ks']) [[.sl l'', .con (.bool b'')]] g (g → R s' k0' n' ks' l'' b'') := by
  cases hx : x with
  | ok y =>
    obtain ⟨⟨s, ⟨k0, n, ks⟩⟩, l', b'⟩ := y
    exact ⟨s, k0, n, (tyPs ks), tksP z l', b', True, ⟨he, fun _ => c.tells hx, fun _ => hk s k0 n ks l' b' hx (by rw [hS, hx]; rfl)⟩⟩
  | error ft => exact ⟨e0, 0, e0, [], [], false, False, ⟨he, fun _ => c.throws hS hx _ _, fun h => h.elim⟩⟩
theorem spDC {β : Type} {z : Tk} {f : FuncId} {args : List PV} {x : Re Da} {l : List Tk} {b : Bool} {S : Re β} {k : Da → List Tk → Bool → Re β} {pre : Prop} (c : CT z f args (fun v => .agg (daP v)) x l b) (he : Enters Tryz.prog f) (hS : S = bnd x k) {R : Int → Int → ByteArray → List (List PV) → List (List PV) → Bool → Prop → Prop}
    (hk : ∀ li co n cs l' b', x = .ok (⟨li, co, n, cs⟩, l', b') → S = k ⟨li, co, n, cs⟩ l' b' → R li co n (cs.map coP) (tksP z l') b' True) (hj : ∀ ft, x = .error ft → R 0 0 e0 [] [] false False) :
    ∃ li' : Int, ∃ co' : Int, ∃ n' : ByteArray, ∃ cs' : List (List PV), ∃ l'' : List (List PV), ∃ b'' : Bool, ∃ g : Prop, CallT Tryz.prog (HF S) pre f args [[.sl (tksP z l), .con (.bool b)]] (.agg [.con (.int .i64 li'), .con (.int .i64 co'), .con (.string n'), .sl cs']) [[.sl l'', .con (.bool b'')]] g (R li' co' n' cs' l'' b'' g) := by
  cases hx : x with
  | ok y =>
    obtain ⟨⟨li, co, n, cs⟩, l', b'⟩ := y
    exact ⟨li, co, n, (cs.map coP), tksP z l', b', True, ⟨he, fun _ => c.tells hx, hk li co n cs l' b' hx (by rw [hS, hx]; rfl)⟩⟩
  | error ft => exact ⟨0, 0, e0, [], [], false, False, ⟨he, fun _ => c.throws hS hx _ _, hj ft hx⟩⟩
theorem spFC {β : Type} {z : Tk} {f : FuncId} {args : List PV} {x : Re Fu} {l : List Tk} {b : Bool} {S : Re β} {k : Fu → List Tk → Bool → Re β} {pre : Prop} (c : CT z f args (fun v => .agg (fuP v)) x l b) (he : Enters Tryz.prog f) (hS : S = bnd x k) {R : Int → Int → ByteArray → List (List PV) → Int → ByteArray → List (List PV) → Int → Int → Int → Int → List (List PV) → ByteArray → List (List PV) → List (List PV) → List (List PV) → Bool → Prop → Prop}
    (hk : ∀ li co s qs k0 n ks k1 li1 co1 m1 y1 n1 ks1 ps1 bs1 l' b', x = .ok (⟨li, co, s, qs, .mk k0 n ks, .mk k1 li1 co1 m1 y1 n1 ks1 ps1 bs1⟩, l', b') → S = k ⟨li, co, s, qs, .mk k0 n ks, .mk k1 li1 co1 m1 y1 n1 ks1 ps1 bs1⟩ l' b' → R li co s (qs.map paP) k0 n (tyPs ks) k1 li1 co1 m1 (byP y1) n1 (exPs ks1) (arPs bs1 ps1) (tksP z l') b' True) (hj : ∀ ft, x = .error ft → R 0 0 e0 [] 0 e0 [] 0 0 0 0 [] e0 [] [] [] false False) :
    ∃ li' : Int, ∃ co' : Int, ∃ s' : ByteArray, ∃ qs' : List (List PV), ∃ k0' : Int, ∃ n' : ByteArray, ∃ ks' : List (List PV), ∃ k1' : Int, ∃ li1' : Int, ∃ co1' : Int, ∃ m1' : Int, ∃ y1' : List (List PV), ∃ n1' : ByteArray, ∃ ks1' : List (List PV), ∃ rs1' : List (List PV), ∃ l'' : List (List PV), ∃ b'' : Bool, ∃ g : Prop, CallT Tryz.prog (HF S) pre f args [[.sl (tksP z l), .con (.bool b)]] (.agg [.con (.int .i64 li'), .con (.int .i64 co'), .con (.string s'), .sl qs', .con (.int .i64 k0'), .con (.string n'), .sl ks', .con (.int .i64 k1'), .con (.int .i64 li1'), .con (.int .i64 co1'), .con (.int .i64 m1'), .sl y1', .con (.string n1'), .sl ks1', .sl rs1']) [[.sl l'', .con (.bool b'')]] g (R li' co' s' qs' k0' n' ks' k1' li1' co1' m1' y1' n1' ks1' rs1' l'' b'' g) := by
  cases hx : x with
  | ok y =>
    obtain ⟨⟨li, co, s, qs, ⟨k0, n, ks⟩, ⟨k1, li1, co1, m1, y1, n1, ks1, ps1, bs1⟩⟩, l', b'⟩ := y
    exact ⟨li, co, s, (qs.map paP), k0, n, (tyPs ks), k1, li1, co1, m1, (byP y1), n1, (exPs ks1), (arPs bs1 ps1), tksP z l', b', True, ⟨he, fun _ => c.tells hx, hk li co s qs k0 n ks k1 li1 co1 m1 y1 n1 ks1 ps1 bs1 l' b' hx (by rw [hS, hx]; rfl)⟩⟩
  | error ft => exact ⟨0, 0, e0, [], 0, e0, [], 0, 0, 0, 0, [], e0, [], [], [], false, False, ⟨he, fun _ => c.throws hS hx _ _, hj ft hx⟩⟩
theorem spHC {β : Type} {z : Tk} {f : FuncId} {args : List PV} {x : Re Ha} {l : List Tk} {b : Bool} {S : Re β} {k : Ha → List Tk → Bool → Re β} {pre : Prop} (c : CT z f args (fun v => .agg (haP v)) x l b) (he : Enters Tryz.prog f) (hS : S = bnd x k) {R : Int → Int → ByteArray → ByteArray → Int → ByteArray → List (List PV) → Int → Int → Int → Int → Int → List (List PV) → ByteArray → List (List PV) → List (List PV) → List (List PV) → Bool → Prop → Prop}
    (hk : ∀ li co s s2 k0 n ks cap k1 li1 co1 m1 y1 n1 ks1 ps1 bs1 l' b', x = .ok (⟨li, co, s, ⟨s2, .mk k0 n ks⟩, cap, .mk k1 li1 co1 m1 y1 n1 ks1 ps1 bs1⟩, l', b') → S = k ⟨li, co, s, ⟨s2, .mk k0 n ks⟩, cap, .mk k1 li1 co1 m1 y1 n1 ks1 ps1 bs1⟩ l' b' → R li co s s2 k0 n (tyPs ks) cap k1 li1 co1 m1 (byP y1) n1 (exPs ks1) (arPs bs1 ps1) (tksP z l') b' True) (hj : ∀ ft, x = .error ft → R 0 0 e0 e0 0 e0 [] 0 0 0 0 0 [] e0 [] [] [] false False) :
    ∃ li' : Int, ∃ co' : Int, ∃ s' : ByteArray, ∃ s2' : ByteArray, ∃ k0' : Int, ∃ n' : ByteArray, ∃ ks' : List (List PV), ∃ cap' : Int, ∃ k1' : Int, ∃ li1' : Int, ∃ co1' : Int, ∃ m1' : Int, ∃ y1' : List (List PV), ∃ n1' : ByteArray, ∃ ks1' : List (List PV), ∃ rs1' : List (List PV), ∃ l'' : List (List PV), ∃ b'' : Bool, ∃ g : Prop, CallT Tryz.prog (HF S) pre f args [[.sl (tksP z l), .con (.bool b)]] (.agg [.con (.int .i64 li'), .con (.int .i64 co'), .con (.string s'), .con (.string s2'), .con (.int .i64 k0'), .con (.string n'), .sl ks', .con (.int .i64 cap'), .con (.int .i64 k1'), .con (.int .i64 li1'), .con (.int .i64 co1'), .con (.int .i64 m1'), .sl y1', .con (.string n1'), .sl ks1', .sl rs1']) [[.sl l'', .con (.bool b'')]] g (R li' co' s' s2' k0' n' ks' cap' k1' li1' co1' m1' y1' n1' ks1' rs1' l'' b'' g) := by
  cases hx : x with
  | ok y =>
    obtain ⟨⟨li, co, s, ⟨s2, ⟨k0, n, ks⟩⟩, cap, ⟨k1, li1, co1, m1, y1, n1, ks1, ps1, bs1⟩⟩, l', b'⟩ := y
    exact ⟨li, co, s, s2, k0, n, (tyPs ks), cap, k1, li1, co1, m1, (byP y1), n1, (exPs ks1), (arPs bs1 ps1), tksP z l', b', True, ⟨he, fun _ => c.tells hx, hk li co s s2 k0 n ks cap k1 li1 co1 m1 y1 n1 ks1 ps1 bs1 l' b' hx (by rw [hS, hx]; rfl)⟩⟩
  | error ft => exact ⟨0, 0, e0, e0, 0, e0, [], 0, 0, 0, 0, 0, [], e0, [], [], [], false, False, ⟨he, fun _ => c.throws hS hx _ _, hj ft hx⟩⟩
section
variable {z : Tk} (hz : z.kind = 0)
include hz
theorem listC_c {part : Rd Co} {n : Nat} (hn : n ≤ 100000) (hp : ∀ l b, l.length < n → CT z 157 [.ptr 0 0] (fun v => .agg (coP v)) (part l b) l b) (hm : Mono part) (btw : ByteArray) (hbt : eqB e0 btw = false) (most : Int) (l : List Tk) (b : Bool) (hl : l.length < n) :
    CT z 156 [.ptr 0 0, .con (.string btw), .con (.int .i64 most), .bm 157 [.ptr 0 0]] (fun v => .sl (coPs v)) (lisS z part btw most l b) l b := by
  refine a156p _ _ _ _ _ _ ?_
  unfold p156p
  obtain ⟨S, hS⟩ : ∃ S, S = lisS z part btw most l b := ⟨_, rfl⟩
  rw [← hS]
  refine ⟨fun c v => ∃ acc l1 b1, v = (coPs acc, tksP z l1, b1, ()) ∧ S = listS z part btw most c acc l1 b1 ∧ l1.length < c ∧ acc.length + l1.length ≤ l.length, ⟨_, [], l, b, rfl, hS, by omega, by simp⟩, ?_⟩
  rintro c ⟨x1, x2, x3, u⟩ ⟨acc, l1, b1, hv, hS, hlt, hle⟩
  simp only [Prod.mk.injEq] at hv
  obtain ⟨rfl, rfl, rfl, _⟩ := hv
  cases c with
  | zero => omega
  | succ f =>
  dsimp only
  rw [coPs_len]
  refine spO (hp l1 _ (by omega)) (enters_of Tryz.func157 (by kernel_rfl) rfl) hS ?_
  intro n0 ks l2 b2 hx hS
  have hl2 := hm l1 _ _ _ _ hx
  refine ⟨by rw [coPs_len]; simp; omega, by intro w hw; rw [List.mem_singleton.1 hw]; simp [PV.one, Value.oneCell'], ?_⟩
  refine spB (skip_c hz btw hbt l2 b2) en_skip hS ?_
  intro t l3 b3 hx3 hS
  refine brS hS (fun h hS => endS hS ?_) (fun h hS => ⟨⟨rfl, rfl, rfl, rfl, trivial⟩, rfl, f, by omega, acc ++ [⟨n0, ks⟩], l3, b3, ?_, hS, ?_, ?_⟩)
  · show PV.sl _ = PV.sl _
    rw [coPs_app]; rfl
  · rw [coPs_app]; rfl
  · have := skip_lt hz hbt hx3 (by simpa using h); omega
  · have := skip_lt hz hbt hx3 (by simpa using h); simp; omega
omit hz in
theorem en_listC : Enters Tryz.prog 156 := enters_of Tryz.func156 (by kernel_rfl) rfl
theorem listQ_c {part : Rd Pa} {n : Nat} (hn : n ≤ 100000) (hp : ∀ l b, l.length < n → CT z 160 [.ptr 0 0] (fun v => .agg (paP v)) (part l b) l b) (hm : Mono part) (btw : ByteArray) (hbt : eqB e0 btw = false) (most : Int) (l : List Tk) (b : Bool) (hl : l.length < n) :
    CT z 185 [.ptr 0 0, .con (.string btw), .con (.int .i64 most), .bm 160 [.ptr 0 0]] (fun v => .sl (paPs v)) (lisS z part btw most l b) l b := by
  refine a185p _ _ _ _ _ _ ?_
  unfold p185p
  obtain ⟨S, hS⟩ : ∃ S, S = lisS z part btw most l b := ⟨_, rfl⟩
  rw [← hS]
  refine ⟨fun c v => ∃ acc l1 b1, v = (paPs acc, tksP z l1, b1, ()) ∧ S = listS z part btw most c acc l1 b1 ∧ l1.length < c ∧ acc.length + l1.length ≤ l.length, ⟨_, [], l, b, rfl, hS, by omega, by simp⟩, ?_⟩
  rintro c ⟨x1, x2, x3, u⟩ ⟨acc, l1, b1, hv, hS, hlt, hle⟩
  simp only [Prod.mk.injEq] at hv
  obtain ⟨rfl, rfl, rfl, _⟩ := hv
  cases c with
  | zero => omega
  | succ f =>
  dsimp only
  rw [paPs_len]
  refine spQ (hp l1 _ (by omega)) (enters_of Tryz.func160 (by kernel_rfl) rfl) hS ?_
  intro s k0 n0 ks l2 b2 hx hS
  have hl2 := hm l1 _ _ _ _ hx
  refine ⟨by rw [paPs_len]; simp; omega, by intro w hw; rw [List.mem_singleton.1 hw]; simp [PV.one, Value.oneCell'], ?_⟩
  refine spB (skip_c hz btw hbt l2 b2) en_skip hS ?_
  intro t l3 b3 hx3 hS
  refine brS hS (fun h hS => endS hS ?_) (fun h hS => ⟨⟨rfl, rfl, rfl, rfl, trivial⟩, rfl, f, by omega, acc ++ [⟨s, .mk k0 n0 ks⟩], l3, b3, ?_, hS, ?_, ?_⟩)
  · show PV.sl _ = PV.sl _
    rw [paPs_app]; rfl
  · rw [paPs_app]; rfl
  · have := skip_lt hz hbt hx3 (by simpa using h); omega
  · have := skip_lt hz hbt hx3 (by simpa using h); simp; omega
omit hz in
theorem en_listQ : Enters Tryz.prog 185 := enters_of Tryz.func185 (by kernel_rfl) rfl
theorem insideQ_c {part : Rd Pa} {n : Nat} (hn : n ≤ 100000) (hp : ∀ l b, l.length < n → CT z 160 [.ptr 0 0] (fun v => .agg (paP v)) (part l b) l b) (hm : Mono part) (btw : ByteArray) (hbt : eqB e0 btw = false) (most : Int) (l : List Tk) (b : Bool) (hl : l.length ≤ n) :
    CT z 159 [.ptr 0 0, .con (.string btw), .con (.int .i64 most), .bm 160 [.ptr 0 0]] (fun v => .sl (paPs v)) (insideS z part btw most l b) l b := by
  refine a159p _ _ _ _ _ _ ?_
  unfold p159p
  refine spU (want_c hz ⟨#[40]⟩ (by decide +kernel) l b) en_want (S := insideS z part btw most l b) rfl ?_
  intro l1 b1 hx hS
  have h1 := want_lt hz (by decide +kernel) hx
  refine spL (listQ_c hz hn hp hm btw hbt most l1 b1 (by omega)) en_listQ hS ?_
  intro ks l2 b2 hx2 hS
  refine spU (want_c hz ⟨#[41]⟩ (by decide +kernel) l2 b2) en_want hS ?_
  intro l3 b3 hx3 hS
  exact endS hS rfl
omit hz in
theorem en_insideQ : Enters Tryz.prog 159 := enters_of Tryz.func159 (by kernel_rfl) rfl
end
end Go.Proofs.YtjhnmikciejekaaGreat.Deep

namespace Go.Proofs.YtjhnmikciejekaaGreat.Deep
open Go.RowKit
set_option linter.unusedVariables false
set_option linter.unusedSimpArgs false
set_option linter.unusedSectionVars false
variable {z : Tk}
theorem isOwn_p (s : ByteArray) : PCalls Tryz.prog 158 [.con (.string s)] (fun r => r = .con (.bool (isOwnB s))) := by
  refine a158 _ _ ?_
  unfold p158
  refine ⟨_, _, call_p en_operator (operator_p s) rfl ?_⟩
  refine br_i (fun h => ?_) (fun h => ?_)
  · exact ⟨by unfold isOwnB; rw [h]; rfl, rfl⟩
  · refine ⟨_, call_p en_isType (isType_p s) rfl ?_⟩
    exact ⟨by unfold isOwnB; rw [h]; rfl, rfl⟩
theorem en_isOwn : Enters Tryz.prog 158 := enters_of Tryz.func158 (by kernel_rfl) rfl
theorem mono_many (lo hi : Int) : Mono (manyS z lo hi) := fun l b => by
  unfold manyS
  repeat' (first | exact MonoR.err | exact MonoR.end' (by simp; done) | exact MonoR.end' (by simp; omega) | exact MonoR.end' (by assumption) | refine MonoR.ite ?_ ?_ | refine MonoR.bindE (fun _ => ?_) | refine MonoR.bind (MonoR.of (by first | exact mono_take | exact mono_skip _ | exact mono_want _ | exact mono_kind _ | exact mono_low | exact mono_within _ _ | exact mono_number) (by first | assumption | exact Nat.le_refl _)) (fun _ _ _ _ => ?_) | (dsimp only))
theorem mono_limit (m : Int) : Mono (limitS z m) := fun l b => by
  unfold limitS
  repeat' (first | exact MonoR.err | exact MonoR.end' (by simp; done) | exact MonoR.end' (by simp; omega) | exact MonoR.end' (by assumption) | refine MonoR.ite ?_ ?_ | refine MonoR.bindE (fun _ => ?_) | refine MonoR.bind (MonoR.of (by first | exact mono_take | exact mono_skip _ | exact mono_want _ | exact mono_kind _ | exact mono_low | exact mono_within _ _ | exact mono_number | exact mono_many _ _) (by first | assumption | exact Nat.le_refl _)) (fun _ _ _ _ => ?_) | (dsimp only))
theorem mono_fresh (t : ByteArray → Bool) : Mono (freshS z t) := fun l b => by
  unfold freshS
  repeat' (first | exact MonoR.err | exact MonoR.end' (by simp; done) | exact MonoR.end' (by simp; omega) | exact MonoR.end' (by assumption) | refine MonoR.ite ?_ ?_ | refine MonoR.bindE (fun _ => ?_) | refine MonoR.bind (MonoR.of (by first | exact mono_take | exact mono_skip _ | exact mono_want _ | exact mono_kind _ | exact mono_low | exact mono_within _ _ | exact mono_number) (by first | assumption | exact Nat.le_refl _)) (fun _ _ _ _ => ?_) | (dsimp only))
theorem mono_param {ty : Rd Ty} (hp : Mono ty) : Mono (paramS z ty) := fun l b => by
  unfold paramS
  repeat' (first | exact MonoR.err | exact MonoR.end' (by simp; done) | exact MonoR.end' (by simp; omega) | exact MonoR.end' (by assumption) | refine MonoR.ite ?_ ?_ | refine MonoR.bindE (fun _ => ?_) | refine MonoR.bind (MonoR.of (by first | exact mono_take | exact mono_skip _ | exact mono_want _ | exact mono_kind _ | exact mono_low | exact mono_within _ _ | exact mono_number | exact hp) (by first | assumption | exact Nat.le_refl _)) (fun _ _ _ _ => ?_) | (dsimp only))
theorem mono_con {ty : Rd Ty} (hp : Mono ty) : Mono (conS z ty) := fun l b => by
  unfold conS
  repeat' (first | exact MonoR.err | exact MonoR.end' (by simp; done) | exact MonoR.end' (by simp; omega) | exact MonoR.end' (by assumption) | refine MonoR.ite ?_ ?_ | refine MonoR.bindE (fun _ => ?_) | refine MonoR.bind (MonoR.of (by first | exact mono_take | exact mono_skip _ | exact mono_want _ | exact mono_kind _ | exact mono_low | exact mono_within _ _ | exact mono_number | exact mono_lis hp _ _) (by first | assumption | exact Nat.le_refl _)) (fun _ _ _ _ => ?_) | (dsimp only))
theorem mono_body {ex : Rd Ex} (hp : Mono ex) : Mono (bodyS z ex) := fun l b => by
  unfold bodyS
  repeat' (first | exact MonoR.err | exact MonoR.end' (by simp; done) | exact MonoR.end' (by simp; omega) | exact MonoR.end' (by assumption) | refine MonoR.ite ?_ ?_ | refine MonoR.bindE (fun _ => ?_) | refine MonoR.bind (MonoR.of (by first | exact mono_take | exact mono_skip _ | exact mono_want _ | exact mono_kind _ | exact mono_low | exact mono_within _ _ | exact mono_number | exact mono_behind hp _) (by first | assumption | exact Nat.le_refl _)) (fun _ _ _ _ => ?_) | (dsimp only))
section
variable (hz : z.kind = 0) {n : Nat} (hn : n ≤ 100000)
include hz hn
theorem limit_c (m : Int) (l : List Tk) (b : Bool) : CT z 109 [.ptr 0 0, .con (.int .i64 m)] (fun v => .con (.int .i64 v)) (limitS z m l b) l b := by
  refine a109 _ _ _ _ _ ?_
  unfold p109
  refine spU (want_c hz ⟨#[99, 97, 112]⟩ (by decide +kernel) l b) en_want (S := limitS z m l b) rfl ?_
  intro l1 b1 hx hS
  refine spI (many_c hz 0 m l1 b1) en_many hS ?_
  intro v l2 b2 hx2 hS
  exact endS hS rfl
theorem fresh_t (l : List Tk) (b : Bool) : CT z 154 [.ptr 0 0, .fn 155 []] (fun v => .con (.string v)) (freshS z isTypeB l b) l b := by
  refine a154t _ _ _ _ ?_
  unfold p154t
  refine spK (kind_c hz 1 (by decide) l b) en_kind (S := freshS z isTypeB l b) rfl ?_
  intro k0 t m y li co l1 b1 hx hS
  refine ⟨_, call_p en_isType (isType_p t) rfl ?_⟩
  exact brS hS (fun h hS => thrS hS) (fun h hS => endS hS rfl)
theorem fresh_o (l : List Tk) (b : Bool) : CT z 154 [.ptr 0 0, .fn 158 []] (fun v => .con (.string v)) (freshS z isOwnB l b) l b := by
  refine a154o _ _ _ _ ?_
  unfold p154o
  refine spK (kind_c hz 1 (by decide) l b) en_kind (S := freshS z isOwnB l b) rfl ?_
  intro k0 t m y li co l1 b1 hx hS
  refine ⟨_, call_p en_isOwn (isOwn_p t) rfl ?_⟩
  exact brS hS (fun h hS => thrS hS) (fun h hS => endS hS rfl)
variable {ty : Rd Ty} (ht : ∀ l b, l.length < n → CT z 36 [.ptr 0 0] (fun v => .agg (tyP v)) (ty l b) l b) (hmt : Mono ty)
include ht hmt
theorem param_c (l : List Tk) (b : Bool) (hl : l.length < n) : CT z 160 [.ptr 0 0] (fun v => .agg (paP v)) (paramS z ty l b) l b := by
  refine a160 _ _ _ _ ?_
  unfold p160
  refine spS (low_c hz l b) en_low (S := paramS z ty l b) rfl ?_
  intro s l1 b1 hx hS
  have h1 := mono_low _ _ _ _ _ hx
  refine spU (want_c hz ⟨#[58]⟩ (by decide +kernel) l1 b1) en_want hS ?_
  intro l2 b2 hx2 hS
  have h2 := mono_want _ _ _ _ _ _ hx2
  refine spT (ht l2 b2 (by omega)) en_typ hS ?_
  intro k0 n0 ks l3 b3 hx3 hS
  exact endS hS rfl
theorem con_c (l : List Tk) (b : Bool) (hl : l.length < n) : CT z 157 [.ptr 0 0] (fun v => .agg (coP v)) (conS z ty l b) l b := by
  refine a157 _ _ _ _ ?_
  unfold p157
  refine spK (kind_c hz 2 (by decide) l b) en_kind (S := conS z ty l b) rfl ?_
  intro k0 t m y li co l1 b1 hx hS
  have h1 := mono_kind _ _ _ _ _ _ hx
  refine spB (skip_c hz ⟨#[111, 102]⟩ (by decide +kernel) l1 b1) en_skip hS ?_
  intro v l2 b2 hx2 hS
  have h2 := mono_skip _ _ _ _ _ _ hx2
  refine brS hS (fun h hS => ?_) (fun h hS => endS hS rfl)
  refine spL (listT_c hz hn ht hmt ⟨#[42]⟩ (by decide +kernel) 6 l2 b2 (by omega)) en_listT hS ?_
  intro ks l3 b3 hx3 hS
  exact endS hS rfl
theorem data_c (l : List Tk) (b : Bool) (hl : l.length ≤ n) (hl0 : l ≠ []) : CT z 104 [.ptr 0 0] (fun v => .agg (daP v)) (dataS z ty l b) l b := by
  refine a104 _ _ _ _ ?_
  unfold p104
  refine spK (take_c l b hl0) en_take (S := dataS z ty l b) rfl ?_
  intro k0 t m y li co l1 b1 hx hS
  have h1 := (take_lt hx hl0).1
  refine spS (fresh_t hz hn l1 b1) (enters_of Tryz.func154 (by kernel_rfl) rfl) hS ?_
  intro s l2 b2 hx2 hS
  have h2 := mono_fresh _ _ _ _ _ _ hx2
  refine spU (want_c hz ⟨#[61]⟩ (by decide +kernel) l2 b2) en_want hS ?_
  intro l3 b3 hx3 hS
  have h3 := mono_want _ _ _ _ _ _ hx3
  refine spL (listC_c hz hn (con_c hz hn ht hmt) (mono_con hmt) ⟨#[124]⟩ (by decide +kernel) 16 l3 b3 (by omega)) en_listC hS ?_
  intro cs l4 b4 hx4 hS
  exact endS hS rfl
variable {ex : Rd Ex} (he : ∀ l b, l.length < n → CT z 32 [.ptr 0 0] (fun v => .agg (exP v)) (ex l b) l b) (hme : Mono ex) (hge : Good ex gdE)
omit ht hmt in
include he hme hge in
theorem body_c (l : List Tk) (b : Bool) (hl : l.length ≤ n) : CT z 110 [.ptr 0 0] (fun v => .agg (exP v)) (bodyS z ex l b) l b := by
  refine a110 _ _ _ _ ?_
  unfold p110
  refine spE (behind_c hz hn he hme hge ⟨#[61]⟩ (by decide +kernel) l b hl) (enters_of Tryz.func116 (by kernel_rfl) rfl) (S := bodyS z ex l b) rfl ?_
  intro k0 li co m y n0 ks ps bs l2 b2 hx2 hS
  exact endS hS rfl
include he hme hge
theorem fun_c (l : List Tk) (b : Bool) (hl : l.length ≤ n) (hl0 : l ≠ []) : CT z 105 [.ptr 0 0] (fun v => .agg (fuP v)) (funS z ty ex l b) l b := by
  refine a105 _ _ _ _ ?_
  unfold p105
  refine spK (take_c l b hl0) en_take (S := funS z ty ex l b) rfl ?_
  intro k0 t m y li co l1 b1 hx hS
  have h1 := (take_lt hx hl0).1
  refine spS (fresh_o hz hn l1 b1) (enters_of Tryz.func154 (by kernel_rfl) rfl) hS ?_
  intro s l2 b2 hx2 hS
  have h2 := mono_fresh _ _ _ _ _ _ hx2
  refine spL (insideQ_c hz hn (param_c hz hn ht hmt) (mono_param hmt) ⟨#[44]⟩ (by decide +kernel) 6 l2 b2 (by omega)) en_insideQ hS ?_
  intro ps l3 b3 hx3 hS
  have h3 := mono_inside (mono_param hmt) _ _ _ _ _ _ _ hx3
  refine spU (want_c hz ⟨#[58]⟩ (by decide +kernel) l3 b3) en_want hS ?_
  intro l4 b4 hx4 hS
  have h4 := mono_want _ _ _ _ _ _ hx4
  refine spT (ht l4 b4 (by omega)) en_typ hS ?_
  intro k1 n1 ks1 l5 b5 hx5 hS
  have h5 := hmt _ _ _ _ _ hx5
  refine spE (body_c hz hn he hme hge l5 b5 (by omega)) (enters_of Tryz.func110 (by kernel_rfl) rfl) hS ?_
  intro k2 li2 co2 m2 y2 n2 ks2 ps2 bs2 l6 b6 hx6 hS
  exact endS hS rfl
theorem hand_c (l : List Tk) (b : Bool) (hl : l.length ≤ n) (hl0 : l ≠ []) : CT z 106 [.ptr 0 0] (fun v => .agg (haP v)) (handS z ty ex l b) l b := by
  refine a106 _ _ _ _ ?_
  unfold p106
  refine spK (take_c l b hl0) en_take (S := handS z ty ex l b) rfl ?_
  intro k0 t m y li co l1 b1 hx hS
  have h1 := (take_lt hx hl0).1
  refine spS (low_c hz l1 b1) en_low hS ?_
  intro s l2 b2 hx2 hS
  have h2 := mono_low _ _ _ _ _ hx2
  refine spU (want_c hz ⟨#[40]⟩ (by decide +kernel) l2 b2) en_want hS ?_
  intro l3 b3 hx3 hS
  have h3 := mono_want _ _ _ _ _ _ hx3
  refine spQ (param_c hz hn ht hmt l3 b3 (by omega)) (enters_of Tryz.func160 (by kernel_rfl) rfl) hS ?_
  intro s2 k1 n1 ks1 l4 b4 hx4 hS
  have h4 := mono_param hmt _ _ _ _ _ hx4
  refine spI (limit_c hz hn 64 l4 b4) (enters_of Tryz.func109 (by kernel_rfl) rfl) hS ?_
  intro c l5 b5 hx5 hS
  have h5 := mono_limit _ _ _ _ _ _ hx5
  refine spU (want_c hz ⟨#[41]⟩ (by decide +kernel) l5 b5) en_want hS ?_
  intro l6 b6 hx6 hS
  have h6 := mono_want _ _ _ _ _ _ hx6
  refine spE (body_c hz hn he hme hge l6 b6 (by omega)) (enters_of Tryz.func110 (by kernel_rfl) rfl) hS ?_
  intro k2 li2 co2 m2 y2 n2 ks2 ps2 bs2 l7 b7 hx7 hS
  exact endS hS rfl
end
end Go.Proofs.YtjhnmikciejekaaGreat.Deep

namespace Go.Proofs.YtjhnmikciejekaaGreat.Deep
open Go.RowKit
set_option linter.unusedVariables false
set_option linter.unusedSimpArgs false
set_option linter.unusedSectionVars false
structure Dc where
  ds : List Da
  fs : List Fu
  hs : List Ha
  qn : Int
  tn : Int
  st : Ty
  cap : Int
  init : Ex
  q : Bool
  t : Bool
  s : Bool
def Dc.zero : Dc := ⟨[], [], [], 0, 0, .zero, 0, .zero, false, false, false⟩
def dcP (a : Nat) (d : Dc) : List PV := [.own a 79 4 (d.ds.map daP), .own (a + 1) 82 15 (d.fs.map fuP), .con (.int .i64 d.qn), .con (.int .i64 d.tn)] ++ (tyP d.st ++ (.con (.int .i64 d.cap) :: (exP d.init ++ [.own (a + 2) 86 16 (d.hs.map haP), .con (.bool d.q), .con (.bool d.t), .con (.bool d.s)])))
abbrev dblk (z : Tk) (l : List Tk) (b : Bool) (d : Dc) : Heap := [[.sl (tksP z l), .con (.bool b)], dcP 2 d, [.tip], [.tip], [.tip]]
abbrev dblk2 (z : Tk) (l : List Tk) (b : Bool) (d : Dc) : Heap := [[.sl (tksP z l), .con (.bool b)], dcP 5 d, [], [], [], [.tip], [.tip], [.tip]]
section
variable (z : Tk)
def onceS (stood : Bool) : Rd Unit := fun l b => bnd (takeS z l b) fun t l b => ifB stood (.error ⟨9, t.li, t.co⟩) (.ok ((), l, b))
def declS (ty : Rd Ty) (ex : Rd Ex) (d : Dc) : Rd Dc := fun l b => let w := textB z 5 l
  ifB (eqB w ⟨#[116, 121, 112, 101]⟩) (bnd (dataS z ty l ((d.ds.length : Int) == 32)) fun a l b => .ok ({ d with ds := d.ds ++ [a] }, l, b))
  (ifB (eqB w ⟨#[102, 117, 110]⟩) (bnd (funS z ty ex l ((d.fs.length : Int) == 48)) fun a l b => .ok ({ d with fs := d.fs ++ [a] }, l, b))
  (ifB (eqB w ⟨#[111, 110]⟩) (bnd (handS z ty ex l ((d.hs.length : Int) == 16)) fun a l b => .ok ({ d with hs := d.hs ++ [a] }, l, b))
  (ifB (eqB w ⟨#[113, 117, 101, 117, 101]⟩) (bnd (onceS z d.q l b) fun _ l b => bnd (manyS z 1 32 l b) fun n l b => .ok ({ d with q := true, qn := n }, l, b))
  (ifB (eqB w ⟨#[116, 105, 109, 101, 114, 115]⟩) (bnd (onceS z d.t l b) fun _ l b => bnd (manyS z 0 32 l b) fun n l b => .ok ({ d with t := true, tn := n }, l, b))
  (ifB (eqB w ⟨#[115, 116, 97, 116, 101]⟩) (bnd (onceS z d.s l b) fun _ l b => bnd (ty l b) fun t l b => bnd (limitS z 256 l b) fun c l b => bnd (bodyS z ex l b) fun e l b => .ok ({ d with s := true, st := t, cap := c, init := e }, l, b))
  (.error (wantF z l)))))))
end
variable {z : Tk}
theorem mono_once (s : Bool) : Mono (onceS z s) := fun l b => by
  unfold onceS
  exact MonoR.bind (MonoR.of mono_take (Nat.le_refl _)) (fun t l1 b1 h1 => MonoR.ite MonoR.err (MonoR.end' h1))
theorem one_row {w y : List PV} {k : Nat} (hw : w ∈ [y]) (h1 : y.length = k) (h2 : ∀ p ∈ y, PV.one p = true) : w.length = k ∧ ∀ p ∈ w, PV.one p = true := by
  rw [List.mem_singleton.1 hw]; exact ⟨h1, h2⟩
theorem once_q (d : Dc) (l : List Tk) (b : Bool) (hl0 : l ≠ []) : TCalls Tryz.prog 107 [.ptr 0 0, .ptr 1 17] (dblk z l b d) (fun r h => ∃ l' b', onceS z d.q l b = .ok ((), l', b') ∧ r = .tup [] ∧ h = dblk z l' b' { d with q := true }) (HF (onceS z d.q l b)) := by
  obtain ⟨ds, fs, hs, qn, tn, ⟨k0, n0, ks⟩, cap, ⟨k1, li1, co1, m1, y1, n1, ks1, ps1, bs1⟩, q, t, s⟩ := d
  refine a107q (tksP z l) b (ds.map daP) (fs.map fuP) qn tn k0 n0 (tyPs ks) cap k1 li1 co1 m1 (byP y1) n1 (exPs ks1) (arPs bs1 ps1) (hs.map haP) q t s _ _ ?_
  unfold p107q
  refine spK (take_c l b hl0) en_take (S := onceS z q l b) rfl ?_
  intro k2 t2 m2 y2 li2 co2 l1 b1 hx hS
  exact brS hS (fun h hS => thrS hS) (fun h hS => ⟨l1, b1, hS, rfl, rfl⟩)
theorem once_t (d : Dc) (l : List Tk) (b : Bool) (hl0 : l ≠ []) : TCalls Tryz.prog 107 [.ptr 0 0, .ptr 1 18] (dblk z l b d) (fun r h => ∃ l' b', onceS z d.t l b = .ok ((), l', b') ∧ r = .tup [] ∧ h = dblk z l' b' { d with t := true }) (HF (onceS z d.t l b)) := by
  obtain ⟨ds, fs, hs, qn, tn, ⟨k0, n0, ks⟩, cap, ⟨k1, li1, co1, m1, y1, n1, ks1, ps1, bs1⟩, q, t, s⟩ := d
  refine a107t (tksP z l) b (ds.map daP) (fs.map fuP) qn tn k0 n0 (tyPs ks) cap k1 li1 co1 m1 (byP y1) n1 (exPs ks1) (arPs bs1 ps1) (hs.map haP) q t s _ _ ?_
  unfold p107t
  refine spK (take_c l b hl0) en_take (S := onceS z t l b) rfl ?_
  intro k2 t2 m2 y2 li2 co2 l1 b1 hx hS
  exact brS hS (fun h hS => thrS hS) (fun h hS => ⟨l1, b1, hS, rfl, rfl⟩)
theorem once_s (d : Dc) (l : List Tk) (b : Bool) (hl0 : l ≠ []) : TCalls Tryz.prog 107 [.ptr 0 0, .ptr 1 19] (dblk z l b d) (fun r h => ∃ l' b', onceS z d.s l b = .ok ((), l', b') ∧ r = .tup [] ∧ h = dblk z l' b' { d with s := true }) (HF (onceS z d.s l b)) := by
  obtain ⟨ds, fs, hs, qn, tn, ⟨k0, n0, ks⟩, cap, ⟨k1, li1, co1, m1, y1, n1, ks1, ps1, bs1⟩, q, t, s⟩ := d
  refine a107s (tksP z l) b (ds.map daP) (fs.map fuP) qn tn k0 n0 (tyPs ks) cap k1 li1 co1 m1 (byP y1) n1 (exPs ks1) (arPs bs1 ps1) (hs.map haP) q t s _ _ ?_
  unfold p107s
  refine spK (take_c l b hl0) en_take (S := onceS z s l b) rfl ?_
  intro k2 t2 m2 y2 li2 co2 l1 b1 hx hS
  exact brS hS (fun h hS => thrS hS) (fun h hS => ⟨l1, b1, hS, rfl, rfl⟩)
section
variable (hz : z.kind = 0) {n : Nat} (hn : n ≤ 100000) {ty : Rd Ty} (ht : ∀ l b, l.length < n → CT z 36 [.ptr 0 0] (fun v => .agg (tyP v)) (ty l b) l b) (hmt : Mono ty) {ex : Rd Ex} (he : ∀ l b, l.length < n → CT z 32 [.ptr 0 0] (fun v => .agg (exP v)) (ex l b) l b) (hme : Mono ex) (hge : Good ex gdE)
include hz hn ht hmt he hme hge
def QD (z : Tk) (x : Re Dc) : PV → Heap → Prop := fun r h => ∃ d l' b', x = .ok (d, l', b') ∧ r = .tup [] ∧ h = dblk2 z l' b' d
theorem decl_c (d : Dc) (l : List Tk) (b : Bool) (hl : l.length < n) (h1 : d.ds.length ≤ 100000) (h2 : d.fs.length ≤ 100000) (h3 : d.hs.length ≤ 100000) : TCalls Tryz.prog 59 [.ptr 0 0, .ptr 1 0] (dblk z l b d) (QD z (declS z ty ex d l b)) (HF (declS z ty ex d l b)) := by
  obtain ⟨ds, fs, hs, qn, tn, ⟨k0, n0, ks⟩, cap, ⟨k1, li1, co1, m1, y1, n1, ks1, ps1, bs1⟩, q, t, s⟩ := d
  dsimp only at h1 h2 h3
  refine a59 (tksP z l) b (ds.map daP) (fs.map fuP) qn tn k0 n0 (tyPs ks) cap k1 li1 co1 m1 (byP y1) n1 (exPs ks1) (arPs bs1 ps1) (hs.map haP) q t s _ _ ?_
  unfold p59
  refine spWord ?_
  obtain ⟨S, hS⟩ : ∃ S, S = declS z ty ex ⟨ds, fs, hs, qn, tn, .mk k0 n0 ks, cap, .mk k1 li1 co1 m1 y1 n1 ks1 ps1 bs1, q, t, s⟩ l b := ⟨_, rfl⟩
  rw [← hS]
  simp only [List.length_map]
  refine brS hS (fun h hS => ?_) (fun h hS => ?_)
  · have hl0 := ne_of_text hz h (by decide) (by decide +kernel)
    refine spDC (data_c hz hn ht hmt l _ (by omega) hl0) (enters_of Tryz.func104 (by kernel_rfl) rfl) hS ?_ ?_
    · intro li co nm cs l1 b1 hx hS
      refine ⟨fun _ => ⟨by simp; omega, fun w hw => one_row hw rfl (by simp [PV.one, Value.oneCell'])⟩, fun _ => ⟨_, _, _, hS, rfl, ?_⟩⟩
      simp [dcP, daP, tyP, exP]
    · intro ft hx
      exact ⟨fun h => h.elim, fun h => h.elim⟩
  refine brS hS (fun h hS => ?_) (fun h hS => ?_)
  · have hl0 := ne_of_text hz h (by decide) (by decide +kernel)
    refine spFC (fun_c hz hn ht hmt he hme hge l _ (by omega) hl0) (enters_of Tryz.func105 (by kernel_rfl) rfl) hS ?_ ?_
    · intro li co nm qs k2 n2 ks2 k3 li3 co3 m3 y3 n3 ks3 ps3 bs3 l1 b1 hx hS
      refine ⟨fun _ => ⟨by simp; omega, fun w hw => one_row hw rfl (by simp [PV.one, Value.oneCell'])⟩, fun _ => ⟨_, _, _, hS, rfl, ?_⟩⟩
      simp [dcP, fuP, tyP, exP]
    · intro ft hx
      exact ⟨fun h => h.elim, fun h => h.elim⟩
  refine brS hS (fun h hS => ?_) (fun h hS => ?_)
  · have hl0 := ne_of_text hz h (by decide) (by decide +kernel)
    refine spHC (hand_c hz hn ht hmt he hme hge l _ (by omega) hl0) (enters_of Tryz.func106 (by kernel_rfl) rfl) hS ?_ ?_
    · intro li co nm nm2 k2 n2 ks2 cp k3 li3 co3 m3 y3 n3 ks3 ps3 bs3 l1 b1 hx hS
      refine ⟨fun _ => ⟨by simp; omega, fun w hw => one_row hw rfl (by simp [PV.one, Value.oneCell'])⟩, fun _ => ⟨_, _, _, hS, rfl, ?_⟩⟩
      simp [dcP, haP, paP, tyP, exP]
    · intro ft hx
      exact ⟨fun h => h.elim, fun h => h.elim⟩
  refine brS hS (fun h hS => ?_) (fun h hS => ?_)
  · have hl0 := ne_of_text hz h (by decide) (by decide +kernel)
    have c := once_q (z := z) ⟨ds, fs, hs, qn, tn, .mk k0 n0 ks, cap, .mk k1 li1 co1 m1 y1 n1 ks1 ps1 bs1, q, t, s⟩ l b hl0
    have hen : Enters Tryz.prog 107 := enters_of Tryz.func107 (by kernel_rfl) rfl
    cases hx : onceS z q l b with
    | error ft => exact ⟨[], false, [], [], 0, 0, 0, e0, [], 0, 0, 0, 0, 0, [], e0, [], [], [], false, false, false, False, ⟨hen, fun _ => TCalls.mono c (fun r h' ⟨l2, b2, e1, _⟩ => by rw [hx] at e1; cases e1) (fun w ⟨ft', e1, e2⟩ => ⟨ft', by rw [hS]; show bnd (onceS z q l b) _ = _; rw [e1]; rfl, e2⟩), fun h => h.elim⟩⟩
    | ok y =>
    obtain ⟨⟨⟩, l1, b1⟩ := y
    have h1 := mono_once _ _ _ _ _ _ hx
    have hS : S = _ := hS.trans (show bnd (onceS z q l b) _ = _ by rw [hx])
    refine ⟨tksP z l1, b1, ds.map daP, fs.map fuP, qn, tn, k0, n0, tyPs ks, cap, k1, li1, co1, m1, byP y1, n1, exPs ks1, arPs bs1 ps1, hs.map haP, true, t, s, True, ⟨hen, fun _ => TCalls.mono c (fun r h' ⟨l2, b2, e1, e2, e3⟩ => by
      rw [hx] at e1; injection e1 with e1; injection e1 with q1 e1; injection e1 with q2 q3
      subst q2 q3
      exact ⟨trivial, e2, e3⟩) (fun w ⟨ft', e1, _⟩ => by rw [hx] at e1; cases e1), fun _ => ?_⟩⟩
    refine spI (many_c hz 1 32 l1 b1) en_many hS ?_
    intro v l2 b2 hx2 hS
    exact ⟨_, _, _, hS, rfl, rfl⟩
  refine brS hS (fun h hS => ?_) (fun h hS => ?_)
  · have hl0 := ne_of_text hz h (by decide) (by decide +kernel)
    have c := once_t (z := z) ⟨ds, fs, hs, qn, tn, .mk k0 n0 ks, cap, .mk k1 li1 co1 m1 y1 n1 ks1 ps1 bs1, q, t, s⟩ l b hl0
    have hen : Enters Tryz.prog 107 := enters_of Tryz.func107 (by kernel_rfl) rfl
    cases hx : onceS z t l b with
    | error ft => exact ⟨[], false, [], [], 0, 0, 0, e0, [], 0, 0, 0, 0, 0, [], e0, [], [], [], false, false, false, False, ⟨hen, fun _ => TCalls.mono c (fun r h' ⟨l2, b2, e1, _⟩ => by rw [hx] at e1; cases e1) (fun w ⟨ft', e1, e2⟩ => ⟨ft', by rw [hS]; show bnd (onceS z t l b) _ = _; rw [e1]; rfl, e2⟩), fun h => h.elim⟩⟩
    | ok y =>
    obtain ⟨⟨⟩, l1, b1⟩ := y
    have h1 := mono_once _ _ _ _ _ _ hx
    have hS : S = _ := hS.trans (show bnd (onceS z t l b) _ = _ by rw [hx])
    refine ⟨tksP z l1, b1, ds.map daP, fs.map fuP, qn, tn, k0, n0, tyPs ks, cap, k1, li1, co1, m1, byP y1, n1, exPs ks1, arPs bs1 ps1, hs.map haP, q, true, s, True, ⟨hen, fun _ => TCalls.mono c (fun r h' ⟨l2, b2, e1, e2, e3⟩ => by
      rw [hx] at e1; injection e1 with e1; injection e1 with q1 e1; injection e1 with q2 q3
      subst q2 q3
      exact ⟨trivial, e2, e3⟩) (fun w ⟨ft', e1, _⟩ => by rw [hx] at e1; cases e1), fun _ => ?_⟩⟩
    refine spI (many_c hz 0 32 l1 b1) en_many hS ?_
    intro v l2 b2 hx2 hS
    exact ⟨_, _, _, hS, rfl, rfl⟩
  refine brS hS (fun h hS => ?_) (fun h hS => spThrow hS)
  · have hl0 := ne_of_text hz h (by decide) (by decide +kernel)
    have c := once_s (z := z) ⟨ds, fs, hs, qn, tn, .mk k0 n0 ks, cap, .mk k1 li1 co1 m1 y1 n1 ks1 ps1 bs1, q, t, s⟩ l b hl0
    have hen : Enters Tryz.prog 107 := enters_of Tryz.func107 (by kernel_rfl) rfl
    cases hx : onceS z s l b with
    | error ft => exact ⟨[], false, [], [], 0, 0, 0, e0, [], 0, 0, 0, 0, 0, [], e0, [], [], [], false, false, false, False, ⟨hen, fun _ => TCalls.mono c (fun r h' ⟨l2, b2, e1, _⟩ => by rw [hx] at e1; cases e1) (fun w ⟨ft', e1, e2⟩ => ⟨ft', by rw [hS]; show bnd (onceS z s l b) _ = _; rw [e1]; rfl, e2⟩), fun h => h.elim⟩⟩
    | ok y =>
    obtain ⟨⟨⟩, l1, b1⟩ := y
    have h1 := mono_once _ _ _ _ _ _ hx
    have hS : S = _ := hS.trans (show bnd (onceS z s l b) _ = _ by rw [hx])
    refine ⟨tksP z l1, b1, ds.map daP, fs.map fuP, qn, tn, k0, n0, tyPs ks, cap, k1, li1, co1, m1, byP y1, n1, exPs ks1, arPs bs1 ps1, hs.map haP, q, t, true, True, ⟨hen, fun _ => TCalls.mono c (fun r h' ⟨l2, b2, e1, e2, e3⟩ => by
      rw [hx] at e1; injection e1 with e1; injection e1 with q1 e1; injection e1 with q2 q3
      subst q2 q3
      exact ⟨trivial, e2, e3⟩) (fun w ⟨ft', e1, _⟩ => by rw [hx] at e1; cases e1), fun _ => ?_⟩⟩
    refine spT (ht l1 b1 (by omega)) en_typ hS ?_
    intro k2 n2 ks2 l2 b2 hx2 hS
    have h2 := hmt _ _ _ _ _ hx2
    refine spI (limit_c hz hn 256 l2 b2) (enters_of Tryz.func109 (by kernel_rfl) rfl) hS ?_
    intro c l3 b3 hx3 hS
    have h3 := mono_limit _ _ _ _ _ _ hx3
    refine spE (body_c hz hn he hme hge l3 b3 (by omega)) (enters_of Tryz.func110 (by kernel_rfl) rfl) hS ?_
    intro k4 li4 co4 m4 y4 n4 ks4 ps4 bs4 l4 b4 hx4 hS
    exact ⟨_, _, _, hS, rfl, rfl⟩
end
end Go.Proofs.YtjhnmikciejekaaGreat.Deep

namespace Go.Proofs.YtjhnmikciejekaaGreat.Deep
open Go.RowKit
set_option linter.unusedVariables false
set_option linter.unusedSimpArgs false
set_option linter.unusedSectionVars false
section
variable (z : Tk)
def progL (ty : Rd Ty) (ex : Rd Ex) : Nat → Dc → Rd Dc
  | 0, d, l, b => .ok (d, l, b)
  | n + 1, d, l, b => ifB (!((hd z l).kind == 0)) (bnd (declS z ty ex d l b) fun d l b => progL ty ex n d l b) (.ok (d, l, b))
def Dc.pr (d : Dc) : Pr := ⟨d.ds, d.fs, d.qn, d.tn, d.st, d.cap, d.init, d.hs⟩
def missF (l : List Tk) : Flt := ⟨18, (hd z l).li, (hd z l).co⟩
def progE (d : Dc) : Rd Pr := fun l b => ifB (!d.q) (.error (missF z l)) (ifB (!d.s) (.error (missF z l)) (.ok (d.pr, l, b)))
def progS (ty : Rd Ty) (ex : Rd Ex) : Rd Pr := fun l b => bnd (progL z ty ex (l.length + 1) Dc.zero l b) fun d l b => progE z d l b
end
variable {z : Tk}
theorem bnd_if {α β : Type} (c : Bool) (x y : Re α) (k : α → List Tk → Bool → Re β) : bnd (ifB c x y) k = ifB c (bnd x k) (bnd y k) := by cases c <;> rfl
theorem bnd_bnd {α β γ : Type} (x : Re α) (j : α → List Tk → Bool → Re β) (k : β → List Tk → Bool → Re γ) : bnd (bnd x j) k = bnd x fun a l b => bnd (j a l b) k := by
  cases x with
  | error f => rfl
  | ok y => rfl
theorem take_less {α : Type} {l : List Tk} {b : Bool} {k : Tk → List Tk → Bool → Re α} {v : α} {l' : List Tk} {b' : Bool} (hl0 : l ≠ []) (h : bnd (takeS z l b) k = .ok (v, l', b')) (hk : ∀ t l1 b1, MonoR l1.length (k t l1 b1)) : l'.length < l.length := by
  obtain ⟨t, l1, b1, h1, h2⟩ := bnd_ok h
  have q1 := (take_lt h1 hl0).1
  have q2 := hk _ _ _ _ _ _ h2
  omega
theorem decl_less (hz : z.kind = 0) {ty : Rd Ty} (hmt : Mono ty) {ex : Rd Ex} (hme : Mono ex) {d : Dc} {l : List Tk} {b : Bool} {d' : Dc} {l' : List Tk} {b' : Bool} (h : declS z ty ex d l b = .ok (d', l', b')) :
    l'.length < l.length ∧ d'.ds.length ≤ d.ds.length + 1 ∧ d'.fs.length ≤ d.fs.length + 1 ∧ d'.hs.length ≤ d.hs.length + 1 := by
  unfold declS at h
  dsimp only at h
  rcases ifB_cases h with ⟨hc, h⟩ | ⟨_, h⟩
  · have hl0 := ne_of_text hz hc (by decide) (by decide +kernel)
    obtain ⟨a, l1, b1, h1, h2⟩ := bnd_ok h
    injection h2 with h2; injection h2 with q1 q2; injection q2 with q2 q3
    subst q1 q2
    refine ⟨take_less hl0 h1 (fun t l2 b2 => ?_), by simp, by simp, by simp⟩
    exact MonoR.bind (MonoR.of (mono_fresh _) (Nat.le_refl _)) (fun s l3 b3 h3 => MonoR.bind (MonoR.of (mono_want _) h3) (fun _ l4 b4 h4 => MonoR.bind (MonoR.of (mono_lis (mono_con hmt) _ _) h4) (fun _ l5 b5 h5 => MonoR.end' h5)))
  rcases ifB_cases h with ⟨hc, h⟩ | ⟨_, h⟩
  · have hl0 := ne_of_text hz hc (by decide) (by decide +kernel)
    obtain ⟨a, l1, b1, h1, h2⟩ := bnd_ok h
    injection h2 with h2; injection h2 with q1 q2; injection q2 with q2 q3
    subst q1 q2
    refine ⟨take_less hl0 h1 (fun t l2 b2 => ?_), by simp, by simp, by simp⟩
    exact MonoR.bind (MonoR.of (mono_fresh _) (Nat.le_refl _)) (fun s l3 b3 h3 => MonoR.bind (MonoR.of (mono_inside (mono_param hmt) _ _) h3) (fun _ l4 b4 h4 => MonoR.bind (MonoR.of (mono_want _) h4) (fun _ l5 b5 h5 => MonoR.bind (MonoR.of hmt h5) (fun _ l6 b6 h6 => MonoR.bind (MonoR.of (mono_body hme) h6) (fun _ l7 b7 h7 => MonoR.end' h7)))))
  rcases ifB_cases h with ⟨hc, h⟩ | ⟨_, h⟩
  · have hl0 := ne_of_text hz hc (by decide) (by decide +kernel)
    obtain ⟨a, l1, b1, h1, h2⟩ := bnd_ok h
    injection h2 with h2; injection h2 with q1 q2; injection q2 with q2 q3
    subst q1 q2
    refine ⟨take_less hl0 h1 (fun t l2 b2 => ?_), by simp, by simp, by simp⟩
    exact MonoR.bind (MonoR.of mono_low (Nat.le_refl _)) (fun s l3 b3 h3 => MonoR.bind (MonoR.of (mono_want _) h3) (fun _ l4 b4 h4 => MonoR.bind (MonoR.of (mono_param hmt) h4) (fun _ l5 b5 h5 => MonoR.bind (MonoR.of (mono_limit _) h5) (fun _ l6 b6 h6 => MonoR.bind (MonoR.of (mono_want _) h6) (fun _ l7 b7 h7 => MonoR.bind (MonoR.of (mono_body hme) h7) (fun _ l8 b8 h8 => MonoR.end' h8))))))
  have once : ∀ {st : Bool} {k : Unit → List Tk → Bool → Re Dc}, l ≠ [] → bnd (onceS z st l b) k = .ok (d', l', b') → (∀ l1 b1, MonoR l1.length (k () l1 b1)) → l'.length < l.length := fun hl0 h hk => by
    obtain ⟨a, l1, b1, h1, h2⟩ := bnd_ok h
    have q1 := take_less hl0 h1 (fun t l2 b2 => MonoR.ite MonoR.err (MonoR.end' (Nat.le_refl _)))
    have q2 := hk _ _ _ _ _ h2
    omega
  have same : ∀ {x : Re Dc}, x = .ok (d', l', b') → (∀ d2 l2 b2, x = .ok (d2, l2, b2) → d2.ds = d.ds ∧ d2.fs = d.fs ∧ d2.hs = d.hs) → d'.ds.length ≤ d.ds.length + 1 ∧ d'.fs.length ≤ d.fs.length + 1 ∧ d'.hs.length ≤ d.hs.length + 1 := fun hx hk => by
    obtain ⟨e1, e2, e3⟩ := hk _ _ _ hx
    rw [e1, e2, e3]; exact ⟨by omega, by omega, by omega⟩
  rcases ifB_cases h with ⟨hc, h⟩ | ⟨_, h⟩
  · have hl0 := ne_of_text hz hc (by decide) (by decide +kernel)
    refine ⟨once hl0 h (fun l1 b1 => MonoR.bind (MonoR.of (mono_many _ _) (Nat.le_refl _)) (fun _ l2 b2 h2 => MonoR.end' h2)), same h (fun d2 l2 b2 hx => ?_)⟩
    obtain ⟨_, _, _, _, hx⟩ := bnd_ok hx
    obtain ⟨_, _, _, _, hx⟩ := bnd_ok hx
    injection hx with hx; injection hx with q1 q2; subst q1; exact ⟨rfl, rfl, rfl⟩
  rcases ifB_cases h with ⟨hc, h⟩ | ⟨_, h⟩
  · have hl0 := ne_of_text hz hc (by decide) (by decide +kernel)
    refine ⟨once hl0 h (fun l1 b1 => MonoR.bind (MonoR.of (mono_many _ _) (Nat.le_refl _)) (fun _ l2 b2 h2 => MonoR.end' h2)), same h (fun d2 l2 b2 hx => ?_)⟩
    obtain ⟨_, _, _, _, hx⟩ := bnd_ok hx
    obtain ⟨_, _, _, _, hx⟩ := bnd_ok hx
    injection hx with hx; injection hx with q1 q2; subst q1; exact ⟨rfl, rfl, rfl⟩
  rcases ifB_cases h with ⟨hc, h⟩ | ⟨_, h⟩
  · have hl0 := ne_of_text hz hc (by decide) (by decide +kernel)
    refine ⟨once hl0 h (fun l1 b1 => MonoR.bind (MonoR.of hmt (Nat.le_refl _)) (fun _ l2 b2 h2 => MonoR.bind (MonoR.of (mono_limit _) h2) (fun _ l3 b3 h3 => MonoR.bind (MonoR.of (mono_body hme) h3) (fun _ l4 b4 h4 => MonoR.end' h4)))), same h (fun d2 l2 b2 hx => ?_)⟩
    obtain ⟨_, _, _, _, hx⟩ := bnd_ok hx
    obtain ⟨_, _, _, _, hx⟩ := bnd_ok hx
    obtain ⟨_, _, _, _, hx⟩ := bnd_ok hx
    obtain ⟨_, _, _, _, hx⟩ := bnd_ok hx
    injection hx with hx; injection hx with q1 q2; subst q1; exact ⟨rfl, rfl, rfl⟩
  · cases h
section
variable (hz : z.kind = 0) {n : Nat} (hn : n ≤ 50000) {ty : Rd Ty} (ht : ∀ l b, l.length < n → CT z 36 [.ptr 0 0] (fun v => .agg (tyP v)) (ty l b) l b) (hmt : Mono ty) {ex : Rd Ex} (he : ∀ l b, l.length < n → CT z 32 [.ptr 0 0] (fun v => .agg (exP v)) (ex l b) l b) (hme : Mono ex) (hge : Good ex gdE)
include hz hn ht hmt he hme hge
theorem prog_step (l : List Tk) (b : Bool) (hl : l.length < n) : CT z 26 [.ptr 0 0] (fun v => .agg (prP v)) (progS z ty ex l b) l b := by
  refine a26 _ _ _ _ ?_
  unfold p26
  obtain ⟨S, hS⟩ : ∃ S, S = progS z ty ex l b := ⟨_, rfl⟩
  rw [← hS]
  refine ⟨fun c v => ∃ d l1 b1, v = (tksP z l1, b1, d.ds.map daP, d.fs.map fuP, d.qn, d.tn, d.st.kind, d.st.name, tyPs d.st.parts, d.cap, d.init.kind, d.init.line, d.init.col, d.init.num, byP d.init.bytes, d.init.name, exPs d.init.kids, arPs d.init.bodies d.init.pats, d.hs.map haP, d.q, d.t, d.s, ()) ∧
      S = (bnd (progL z ty ex c d l1 b1) fun d l b => progE z d l b) ∧ l1.length < c ∧ d.ds.length + l1.length ≤ l.length ∧ d.fs.length + l1.length ≤ l.length ∧ d.hs.length + l1.length ≤ l.length, ⟨_, Dc.zero, l, b, rfl, hS, by omega, by simp [Dc.zero], by simp [Dc.zero], by simp [Dc.zero]⟩, ?_⟩
  rintro c v ⟨d, l1, b1, hv, hS, hlt, g1, g2, g3⟩
  subst hv
  obtain ⟨ds, fs, hs, qn, tn, ⟨k0, n0, ks⟩, cap, ⟨k1, li1, co1, m1, y1, n1, ks1, ps1, bs1⟩, q, t, s⟩ := d
  dsimp only at g1 g2 g3
  cases c with
  | zero => omega
  | succ f =>
  refine ⟨_, lookN (ended_c l1 b1) en_ended ?_⟩
  unfold progL at hS
  rw [bnd_if] at hS
  refine brS hS (fun h hS => ?_) (fun h hS => ?_)
  · rw [bnd_bnd] at hS
    have c := decl_c hz (by omega : n ≤ 100000) ht hmt he hme hge ⟨ds, fs, hs, qn, tn, .mk k0 n0 ks, cap, .mk k1 li1 co1 m1 y1 n1 ks1 ps1 bs1, q, t, s⟩ l1 b1 (by omega) (by dsimp only; omega) (by dsimp only; omega) (by dsimp only; omega)
    have hen : Enters Tryz.prog 59 := enters_of Tryz.func59 (by kernel_rfl) rfl
    cases hx : declS z ty ex ⟨ds, fs, hs, qn, tn, .mk k0 n0 ks, cap, .mk k1 li1 co1 m1 y1 n1 ks1 ps1 bs1, q, t, s⟩ l1 b1 with
    | error ft => exact ⟨[], false, [], [], 0, 0, 0, e0, [], 0, 0, 0, 0, 0, [], e0, [], [], [], false, false, false, False, ⟨hen, fun _ => TCalls.mono c (fun r h' ⟨d2, l2, b2, e1, _⟩ => by rw [hx] at e1; cases e1) (fun w ⟨ft', e1, e2⟩ => ⟨ft', by rw [hS, e1]; rfl, e2⟩), fun h => h.elim⟩⟩
    | ok y =>
    obtain ⟨d', l2, b2⟩ := y
    obtain ⟨w1, w2, w3, w4⟩ := decl_less hz hmt hme hx
    dsimp only at w2 w3 w4
    rw [hx] at hS
    obtain ⟨ds', fs', hs', qn', tn', ⟨k0', n0', ks'⟩, cap', ⟨k1', li1', co1', m1', y1', n1', ks1', ps1', bs1'⟩, q', t', s'⟩ := d'
    dsimp only at w2 w3 w4
    refine ⟨tksP z l2, b2, ds'.map daP, fs'.map fuP, qn', tn', k0', n0', tyPs ks', cap', k1', li1', co1', m1', byP y1', n1', exPs ks1', arPs bs1' ps1', hs'.map haP, q', t', s', True, ⟨hen, fun _ => TCalls.mono c (fun r h' ⟨d3, l3, b3, e1, e2, e3⟩ => by
      rw [hx] at e1; injection e1 with e1; injection e1 with q1 e1; injection e1 with q2 q3
      subst q1 q2 q3
      exact ⟨trivial, e2, e3⟩) (fun w ⟨ft', e1, _⟩ => by rw [hx] at e1; cases e1), fun _ => ?_⟩⟩
    refine ⟨⟨rfl, rfl, rfl, trivial⟩, rfl, f, by omega, ⟨ds', fs', hs', qn', tn', .mk k0' n0' ks', cap', .mk k1' li1' co1' m1' y1' n1' ks1' ps1' bs1', q', t', s'⟩, l2, b2, rfl, hS, by omega, by dsimp only; omega, by dsimp only; omega, by dsimp only; omega⟩
  · have hS : S = progE z ⟨ds, fs, hs, qn, tn, .mk k0 n0 ks, cap, .mk k1 li1 co1 m1 y1 n1 ks1 ps1 bs1, q, t, s⟩ l1 b1 := hS
    refine brS hS (fun h hS => ?_) (fun h hS => ?_)
    · refine spNext ?_
      exact thrS hS
    refine brS hS (fun h hS => ?_) (fun h hS => ?_)
    · refine spNext ?_
      exact thrS hS
    exact endS hS rfl
end
def pG (z : Tk) (n : Nat) : Rd Pr := progS z (pT z n) (pE z n)
theorem prog_c (hz : z.kind = 0) (n : Nat) (hn : n ≤ 50000) (l : List Tk) (b : Bool) (hl : l.length < n) : CT z 26 [.ptr 0 0] (fun v => .agg (prP v)) (pG z n l b) l b :=
  prog_step hz hn (typ_c hz n (by omega)) (mono_T n) (expr_c hz n (by omega)) (mono_E n) (good_E n) l b hl
end Go.Proofs.YtjhnmikciejekaaGreat.Deep

namespace Go.Proofs.YtjhnmikciejekaaGreat.Deep
open Go.RowKit
set_option linter.unusedVariables false
set_option linter.unusedSimpArgs false
def Cl {α : Type} (X : Re α) : Prop := ∀ v l b, X = .ok (v, l, b) → b = false
theorem cl_bnd {α β : Type} {X : Re α} {K : α → List Tk → Bool → Re β} (h : Cl X) (k : ∀ v l, Cl (K v l false)) : Cl (bnd X K) := fun v l b hx => by
  obtain ⟨a, l1, b1, h1, h2⟩ := bnd_ok hx
  obtain rfl := h _ _ _ h1
  exact k _ _ _ _ _ h2
theorem cl_any {α β : Type} {X : Re α} {K : α → List Tk → Bool → Re β} (k : ∀ v l b, Cl (K v l b)) : Cl (bnd X K) := fun v l b hx => by
  obtain ⟨a, l1, b1, h1, h2⟩ := bnd_ok hx
  exact k _ _ _ _ _ _ h2
theorem cl_bndE {α β : Type} {X : Except Flt α} {K : α → Re β} (k : ∀ v, Cl (K v)) : Cl (bndE X K) := fun v l b hx => by
  obtain ⟨a, h1, h2⟩ := bndE_ok hx
  exact k _ _ _ _ h2
theorem cl_ite {α : Type} {c : Bool} {x y : Re α} (hx : Cl x) (hy : Cl y) : Cl (ifB c x y) := by cases c <;> assumption
theorem cl_err {α : Type} {f : Flt} : Cl (α := α) (.error f) := fun v l b h => by cases h
theorem cl_ok {α : Type} {v : α} {l : List Tk} : Cl (.ok (v, l, false)) := fun v' l' b' h => by injection h with h; injection h with _ h; injection h with _ h; exact h.symm
section
variable {z : Tk}
theorem cl_take (l : List Tk) (b : Bool) : Cl (takeS z l b) := fun v l' b' h => by
  rcases ifB_cases h with ⟨h1, h2⟩ | ⟨h1, h2⟩
  · cases h2
  · injection h2 with h2; injection h2 with _ h2; injection h2 with _ h2; rw [← h2, h1]
theorem cl_skip (s : ByteArray) (l : List Tk) : Cl (skipS z s l false) := cl_ite (cl_bnd (cl_take _ _) (fun _ _ => cl_ok)) cl_ok
theorem cl_want (s : ByteArray) (l : List Tk) (b : Bool) : Cl (wantS z s l b) := fun v l' b' h => by
  unfold wantS skipS at h
  obtain ⟨a, l1, b1, h1, h2⟩ := bnd_ok h
  rcases ifB_cases h2 with ⟨h3, h4⟩ | ⟨h3, h4⟩
  · cases h4
  · injection h4 with h4; injection h4 with _ h4; injection h4 with _ h4
    rcases ifB_cases h1 with ⟨h5, h6⟩ | ⟨h5, h6⟩
    · rw [← h4]; exact (cl_bnd (cl_take _ _) (fun _ _ => cl_ok)) _ _ _ h6
    · injection h6 with h6; injection h6 with h6; rw [← h6] at h3; cases h3
theorem cl_kind (k : Int) (l : List Tk) (b : Bool) : Cl (kindS z k l b) := cl_ite cl_err (cl_bnd (cl_take _ _) (fun _ _ => cl_ok))
theorem cl_low (l : List Tk) (b : Bool) : Cl (lowS z l b) := cl_bnd (cl_kind _ _ _) (fun _ _ => cl_ok)
theorem cl_within (lo hi : Int) (l : List Tk) (b : Bool) : Cl (withinS z lo hi l b) := cl_bnd (cl_kind _ _ _) (fun _ _ => cl_ite cl_err (cl_ite cl_err cl_ok))
theorem cl_number (l : List Tk) (b : Bool) : Cl (numberS z l b) := cl_any (fun _ _ _ => cl_ite (cl_bnd (cl_kind _ _ _) (fun _ _ => cl_ok)) (cl_bnd (cl_kind _ _ _) (fun _ _ => cl_ok)))
theorem cl_list {α : Type} {p : Rd α} (hp : ∀ l b, Cl (p l b)) (btw : ByteArray) (most : Int) : ∀ (n : Nat) (acc : List α) (l : List Tk), Cl (listS z p btw most n acc l false)
  | 0, acc, l => cl_ok
  | n + 1, acc, l => by
    unfold listS
    exact cl_bnd (hp _ _) (fun a l1 => cl_bnd (cl_skip _ _) (fun t l2 => cl_ite cl_ok (cl_list hp btw most n _ l2)))
theorem cl_lis {α : Type} {p : Rd α} (hp : ∀ l b, Cl (p l b)) (btw : ByteArray) (most : Int) (l : List Tk) : Cl (lisS z p btw most l false) := cl_list hp btw most _ _ l
theorem cl_inside {α : Type} {p : Rd α} (hp : ∀ l b, Cl (p l b)) (btw : ByteArray) (most : Int) (l : List Tk) (b : Bool) : Cl (insideS z p btw most l b) := cl_bnd (cl_want _ _ _) (fun _ l1 => cl_bnd (cl_lis hp btw most l1) (fun ks l2 => cl_bnd (cl_want _ _ _) (fun _ _ => cl_ok)))
theorem cl_opt {α : Type} {p : Rd α} (hp : ∀ l b, Cl (p l b)) (l : List Tk) : Cl (optS z p l false) := cl_ite cl_ok (cl_bnd (cl_inside hp _ _ _ _) (fun _ _ => cl_ok))
theorem cl_sevP {pt : Rd Pt} (hp : ∀ l b, Cl (pt l b)) (l : List Tk) (b : Bool) : Cl (sevPS z pt l b) := by
  unfold sevPS
  try dsimp only
  repeat' (first | exact cl_err | exact cl_ok | refine cl_ite ?_ ?_ | refine cl_bndE (fun _ => ?_) | refine cl_bnd (by first | exact cl_take _ _ | exact cl_skip _ _ | exact cl_want _ _ _ | exact cl_kind _ _ _ | exact cl_low _ _ | exact cl_within _ _ _ _ | exact cl_number _ _ | exact cl_inside hp _ _ _ _) (fun _ _ => ?_) | (dsimp only))
theorem cl_pat {pt : Rd Pt} (hp : ∀ l b, Cl (pt l b)) (l : List Tk) (b : Bool) : Cl (patS z pt l b) := by
  unfold patS
  try dsimp only
  repeat' (first | exact cl_err | exact cl_ok | refine cl_ite ?_ ?_ | refine cl_bndE (fun _ => ?_) | refine cl_bnd (by first | exact cl_take _ _ | exact cl_skip _ _ | exact cl_want _ _ _ | exact cl_kind _ _ _ | exact cl_low _ _ | exact cl_within _ _ _ _ | exact cl_number _ _ | exact cl_opt hp _ | exact cl_sevP hp _ _) (fun _ _ => ?_) | (dsimp only))
theorem cl_P : ∀ (n : Nat) (l : List Tk) (b : Bool), Cl (pP z n l b)
  | 0, l, b => cl_err
  | n + 1, l, b => cl_pat (cl_P n) l b
theorem cl_behind {ex : Rd Ex} (he : ∀ l b, Cl (ex l b)) (s : ByteArray) (l : List Tk) (b : Bool) : Cl (behindS z ex s l b) := by
  unfold behindS
  try dsimp only
  repeat' (first | exact cl_err | exact cl_ok | refine cl_ite ?_ ?_ | refine cl_bndE (fun _ => ?_) | refine cl_bnd (by first | exact cl_take _ _ | exact cl_skip _ _ | exact cl_want _ _ _ | exact cl_kind _ _ _ | exact cl_low _ _ | exact cl_within _ _ _ _ | exact cl_number _ _ | exact he _ _) (fun _ _ => ?_) | (dsimp only))
theorem cl_let {ex : Rd Ex} (he : ∀ l b, Cl (ex l b)) (l : List Tk) (b : Bool) : Cl (letS z ex l b) := by
  unfold letS
  try dsimp only
  repeat' (first | exact cl_err | exact cl_ok | refine cl_ite ?_ ?_ | refine cl_bndE (fun _ => ?_) | refine cl_bnd (by first | exact cl_take _ _ | exact cl_skip _ _ | exact cl_want _ _ _ | exact cl_kind _ _ _ | exact cl_low _ _ | exact cl_within _ _ _ _ | exact cl_number _ _ | exact cl_behind he _ _ _) (fun _ _ => ?_) | (dsimp only))
theorem cl_cond {ex : Rd Ex} (he : ∀ l b, Cl (ex l b)) (l : List Tk) (b : Bool) : Cl (condS z ex l b) := by
  unfold condS
  try dsimp only
  repeat' (first | exact cl_err | exact cl_ok | refine cl_ite ?_ ?_ | refine cl_bndE (fun _ => ?_) | refine cl_bnd (by first | exact cl_take _ _ | exact cl_skip _ _ | exact cl_want _ _ _ | exact cl_kind _ _ _ | exact cl_low _ _ | exact cl_within _ _ _ _ | exact cl_number _ _ | exact cl_behind he _ _ _) (fun _ _ => ?_) | (dsimp only))
theorem cl_loop {ex : Rd Ex} (he : ∀ l b, Cl (ex l b)) (l : List Tk) (b : Bool) : Cl (loopS z ex l b) := by
  unfold loopS
  try dsimp only
  repeat' (first | exact cl_err | exact cl_ok | refine cl_ite ?_ ?_ | refine cl_bndE (fun _ => ?_) | refine cl_bnd (by first | exact cl_take _ _ | exact cl_skip _ _ | exact cl_want _ _ _ | exact cl_kind _ _ _ | exact cl_low _ _ | exact cl_within _ _ _ _ | exact cl_number _ _ | exact cl_behind he _ _ _) (fun _ _ => ?_) | (dsimp only))
theorem cl_arm {ex : Rd Ex} (he : ∀ l b, Cl (ex l b)) {pt : Rd Pt} (hp : ∀ l b, Cl (pt l b)) (l : List Tk) (b : Bool) : Cl (armS z ex pt l b) := by
  unfold armS
  try dsimp only
  repeat' (first | exact cl_err | exact cl_ok | refine cl_ite ?_ ?_ | refine cl_bndE (fun _ => ?_) | refine cl_bnd (by first | exact cl_take _ _ | exact cl_skip _ _ | exact cl_want _ _ _ | exact cl_kind _ _ _ | exact cl_low _ _ | exact cl_within _ _ _ _ | exact cl_number _ _ | exact hp _ _ | exact cl_behind he _ _ _) (fun _ _ => ?_) | (dsimp only))
theorem cl_match {ex : Rd Ex} (he : ∀ l b, Cl (ex l b)) {pt : Rd Pt} (hp : ∀ l b, Cl (pt l b)) (l : List Tk) (b : Bool) : Cl (matchS z ex pt l b) := by
  unfold matchS
  try dsimp only
  repeat' (first | exact cl_err | exact cl_ok | refine cl_ite ?_ ?_ | refine cl_bndE (fun _ => ?_) | refine cl_bnd (by first | exact cl_take _ _ | exact cl_skip _ _ | exact cl_want _ _ _ | exact cl_kind _ _ _ | exact cl_low _ _ | exact cl_within _ _ _ _ | exact cl_number _ _ | exact cl_behind he _ _ _ | exact cl_lis (cl_arm he hp) _ _ _) (fun _ _ => ?_) | (dsimp only))
theorem cl_named {ex : Rd Ex} (he : ∀ l b, Cl (ex l b)) (l : List Tk) (b : Bool) : Cl (namedS z ex l b) := by
  unfold namedS
  try dsimp only
  repeat' (first | exact cl_err | exact cl_ok | refine cl_ite ?_ ?_ | refine cl_bndE (fun _ => ?_) | refine cl_bnd (by first | exact cl_take _ _ | exact cl_skip _ _ | exact cl_want _ _ _ | exact cl_kind _ _ _ | exact cl_low _ _ | exact cl_within _ _ _ _ | exact cl_number _ _ | exact cl_inside he _ _ _ _) (fun _ _ => ?_) | (dsimp only))
theorem cl_sev {ex : Rd Ex} (he : ∀ l b, Cl (ex l b)) (l : List Tk) (b : Bool) : Cl (sevS z ex l b) := by
  unfold sevS
  try dsimp only
  repeat' (first | exact cl_err | exact cl_ok | refine cl_ite ?_ ?_ | refine cl_bndE (fun _ => ?_) | refine cl_bnd (by first | exact cl_take _ _ | exact cl_skip _ _ | exact cl_want _ _ _ | exact cl_kind _ _ _ | exact cl_low _ _ | exact cl_within _ _ _ _ | exact cl_number _ _ | exact cl_inside he _ _ _ _) (fun _ _ => ?_) | (dsimp only))
theorem cl_atom {ex : Rd Ex} (he : ∀ l b, Cl (ex l b)) (l : List Tk) (b : Bool) : Cl (atomS z ex l b) := by
  unfold atomS
  try dsimp only
  repeat' (first | exact cl_err | exact cl_ok | refine cl_ite ?_ ?_ | refine cl_bndE (fun _ => ?_) | refine cl_bnd (by first | exact cl_take _ _ | exact cl_skip _ _ | exact cl_want _ _ _ | exact cl_kind _ _ _ | exact cl_low _ _ | exact cl_within _ _ _ _ | exact cl_number _ _ | exact cl_named he _ _ | exact cl_opt he _ | exact cl_sev he _ _) (fun _ _ => ?_) | (dsimp only))
theorem cl_op {p : Rd Ex} (hp : ∀ l b, Cl (p l b)) (op : Int) (left : Ex) (l : List Tk) (b : Bool) : Cl (opS z p op left l b) := cl_bnd (cl_take _ _) (fun _ _ => cl_bnd (hp _ _) (fun _ _ => cl_bndE (fun _ => cl_ok)))
theorem cl_ch {p : Rd Ex} (hp : ∀ l b, Cl (p l b)) (opf : ByteArray → Int × Bool) : ∀ (n : Nat) (e : Ex) (l : List Tk), Cl (chS z opf p n e l false)
  | 0, e, l => cl_ok
  | n + 1, e, l => by
    unfold chS
    exact cl_ite cl_ok (cl_bnd (cl_op hp _ _ _ _) (fun v l1 => cl_ch hp opf n v l1))
theorem cl_chain {p : Rd Ex} (hp : ∀ l b, Cl (p l b)) (opf : ByteArray → Int × Bool) (l : List Tk) (b : Bool) : Cl (chainS z opf p l b) := cl_bnd (hp _ _) (fun v l1 => cl_ch hp opf _ v l1)
theorem cl_prod {ex : Rd Ex} (he : ∀ l b, Cl (ex l b)) (l : List Tk) (b : Bool) : Cl (prodS z ex l b) := by
  unfold prodS
  try dsimp only
  repeat' (first | exact cl_err | exact cl_ok | refine cl_ite ?_ ?_ | refine cl_bndE (fun _ => ?_) | refine cl_bnd (by first | exact cl_take _ _ | exact cl_skip _ _ | exact cl_want _ _ _ | exact cl_kind _ _ _ | exact cl_low _ _ | exact cl_within _ _ _ _ | exact cl_number _ _ | exact cl_chain (cl_atom he) _ _ _) (fun _ _ => ?_) | (dsimp only))
theorem cl_sum {ex : Rd Ex} (he : ∀ l b, Cl (ex l b)) (l : List Tk) (b : Bool) : Cl (sumS z ex l b) := by
  unfold sumS
  try dsimp only
  repeat' (first | exact cl_err | exact cl_ok | refine cl_ite ?_ ?_ | refine cl_bndE (fun _ => ?_) | refine cl_bnd (by first | exact cl_take _ _ | exact cl_skip _ _ | exact cl_want _ _ _ | exact cl_kind _ _ _ | exact cl_low _ _ | exact cl_within _ _ _ _ | exact cl_number _ _ | exact cl_chain (cl_prod he) _ _ _) (fun _ _ => ?_) | (dsimp only))
theorem cl_cmp {ex : Rd Ex} (he : ∀ l b, Cl (ex l b)) (l : List Tk) (b : Bool) : Cl (cmpS z ex l b) := by
  unfold cmpS
  try dsimp only
  repeat' (first | exact cl_err | exact cl_ok | refine cl_ite ?_ ?_ | refine cl_bndE (fun _ => ?_) | refine cl_bnd (by first | exact cl_take _ _ | exact cl_skip _ _ | exact cl_want _ _ _ | exact cl_kind _ _ _ | exact cl_low _ _ | exact cl_within _ _ _ _ | exact cl_number _ _ | exact cl_sum he _ _ | exact cl_op (cl_sum he) _ _ _ _) (fun _ _ => ?_) | (dsimp only))
theorem cl_expr {ex : Rd Ex} (he : ∀ l b, Cl (ex l b)) {pt : Rd Pt} (hp : ∀ l b, Cl (pt l b)) (l : List Tk) (b : Bool) : Cl (exprS z ex pt l b) := by
  unfold exprS
  try dsimp only
  repeat' (first | exact cl_err | exact cl_ok | refine cl_ite ?_ ?_ | refine cl_bndE (fun _ => ?_) | refine cl_bnd (by first | exact cl_take _ _ | exact cl_skip _ _ | exact cl_want _ _ _ | exact cl_kind _ _ _ | exact cl_low _ _ | exact cl_within _ _ _ _ | exact cl_number _ _ | exact cl_let he _ _ | exact cl_cond he _ _ | exact cl_match he hp _ _ | exact cl_loop he _ _ | exact cl_cmp he _ _) (fun _ _ => ?_) | (dsimp only))
theorem cl_E : ∀ (n : Nat) (l : List Tk) (b : Bool), Cl (pE z n l b)
  | 0, l, b => cl_err
  | n + 1, l, b => cl_expr (cl_E n) (cl_P n) l b
end
end Go.Proofs.YtjhnmikciejekaaGreat.Deep

namespace Go.Proofs.YtjhnmikciejekaaGreat.Deep
open Go.RowKit
set_option linter.unusedVariables false
set_option linter.unusedSimpArgs false
theorem lexK_bare {X : ByteArray} {L : List Go.Proofs.YtjhnmikciejekaaGreat.Tok} (h : bareS (lexOf X) = .inr (L ++ [endT])) : ∃ l z, lexK X = .ok (l, z) ∧ l.map bt = L.map tkOf ∧ z.kind = 0 := by
  cases hx : lexOf X with
  | inl e => rw [hx] at h; cases h
  | inr T =>
    rw [hx] at h
    injection h with h
    obtain ⟨U, e, rfl, hk, hn⟩ := lexOf_ends hx
    rw [List.map_append] at h
    have h3 := List.append_inj' h rfl
    refine ⟨U.map tkOf, tkOf e, ?_, ?_, hk⟩
    · simp only [lexK, hx]; simp
    · rw [← h3.1, List.map_map, List.map_map]; rfl
theorem lexK_runes {s : ByteArray} (hs : s.size ≤ 800) {l : List Tk} {z : Tk} (h : lexK s = .ok (l, z)) :
    ∃ (R : List Int) (U : List Go.Proofs.YtjhnmikciejekaaGreat.Tok), (∀ c ∈ R, validB c = true) ∧ s.data.toList = R.flatMap enc ∧ R.length ≤ 800 ∧ lexP (R.length + 1) R = .inr (U ++ [endT]) ∧ l.map bt = U.map tkOf ∧ (∀ t ∈ l, t.kind ≠ 0) ∧ z.kind = 0 := by
  cases hx : lexOf s with
  | inl e => obtain ⟨e, L, C⟩ := e; simp only [lexK, hx] at h; cases h
  | inr T =>
    have hb : badOf s = none := by
      unfold lexOf at hx
      split at hx
      · cases hx
      · cases hb : badOf s with
        | some p => rw [hb] at hx; cases hx
        | none => rfl
    obtain ⟨v1, v2⟩ := sound_runes hb
    obtain ⟨w1, w2⟩ := bare_snd (by omega) v1 v2
    have hlen := enc_len_pos v1
    have hz := size_l s
    rw [v2] at hz
    rw [hx] at w1
    obtain ⟨U, hU, hne⟩ := lexP_ends _ _ _ (by omega) w1.symm
    have h2 : bareS (lexOf s) = .inr (U ++ [endT]) := by rw [hx]; exact congrArg _ hU
    obtain ⟨l2, z2, h3, h4, h5⟩ := lexK_bare h2
    rw [h] at h3
    injection h3 with h3; injection h3 with h3 h6
    subst h3 h6
    refine ⟨runesI (runesOf s), U, v1, v2, by omega, by rw [← w1]; exact congrArg _ hU, h4, fun t ht => ?_, h5⟩
    have : bt t ∈ l.map bt := List.mem_map_of_mem ht
    rw [h4] at this
    obtain ⟨u, hu, he⟩ := List.mem_map.1 this
    have h7 := hne u hu
    have h8 : (tkOf u).kind = (bt t).kind := by rw [he]
    show (bt t).kind ≠ 0
    rw [← h8]; exact h7
theorem map_split {l : List Tk} {a b : List Tk} (h : l.map bt = a ++ b) : ∃ x y, l = x ++ y ∧ x.map bt = a ∧ y.map bt = b := by
  obtain ⟨x, y, h1, h2, h3⟩ := List.map_eq_append_iff.1 h
  exact ⟨x, y, h1, h2, h3⟩
theorem map_one {l : List Tk} {a : Tk} {b : List Tk} (h : l.map bt = a :: b) : ∃ x y, l = x :: y ∧ bt x = a ∧ y.map bt = b := by
  cases l with
  | nil => cases h
  | cons x y => simp only [List.map_cons, List.cons.injEq] at h; exact ⟨x, y, rfl, h.1, h.2⟩
theorem sign_of {t : Tk} {b : List UInt8} (h : bt t = tkOf (sg b)) : t.kind = 6 ∧ t.text = ⟨b.toArray⟩ := by
  unfold bt tkOf sg at h
  injection h with h1 h2
  exact ⟨h1, h2⟩
theorem enc_small : enc 40 = [40] ∧ enc 41 = [41] ∧ enc 10 = [10] ∧ enc 32 = [32] := by decide
theorem one_paren {s X : ByteArray} (hs : s.size ≤ 800) {l : List Tk} {z : Tk} (h : lexK s = .ok (l, z)) (hX : X.data.toList = 40 :: (s.data.toList ++ [10, 41])) :
    ∃ o l' c z', lexK X = .ok (o :: (l' ++ [c]), z') ∧ RR l l' ∧ z'.kind = 0 ∧ o.kind = 6 ∧ o.text = ⟨#[40]⟩ ∧ c.kind = 6 ∧ c.text = ⟨#[41]⟩ := by
  obtain ⟨R, U, v1, v2, v3, v4, v5, v6, v7⟩ := lexK_runes hs h
  obtain ⟨q1, q2, q3, q4⟩ := enc_small
  have hsz : X.size ≤ 3000 := by
    rw [size_l X, hX]
    have := size_l s
    simp only [List.length_cons, List.length_append, List.length_nil]; omega
  obtain ⟨w1, w2⟩ := bare_snd hsz (R := 40 :: (R ++ 10 :: [41])) (by
    intro c hc
    simp only [List.mem_cons, List.mem_append, List.not_mem_nil, or_false] at hc
    rcases hc with rfl | hc | rfl | rfl
    · decide
    · exact v1 c hc
    · decide
    · decide) (by
    rw [hX, v2]
    simp only [List.flatMap_cons, List.flatMap_append, List.flatMap_nil, q1, q2, q3, List.cons_append, List.nil_append, List.append_nil])
  rw [lex_one v4 _ (by omega)] at w1
  rw [show sg [40] :: ((U ++ [endT]).dropLast ++ [sg [41], endT]) = (sg [40] :: (U ++ [sg [41]])) ++ [endT] by simp] at w1
  obtain ⟨lx, zx, h1, h2, h3⟩ := lexK_bare w1
  simp only [List.map_cons, List.map_append, List.map_nil] at h2
  obtain ⟨o, y, rfl, h4, h5⟩ := map_one h2
  obtain ⟨l', y2, rfl, h6, h7⟩ := map_split h5
  obtain ⟨c, y3, rfl, h8, h9⟩ := map_one h7
  obtain rfl : y3 = [] := by simpa using h9
  exact ⟨o, l', c, zx, h1, ⟨by rw [v5, h6], v6⟩, h3, (sign_of h4).1, (sign_of h4).2, (sign_of h8).1, (sign_of h8).2⟩
theorem two_parens {s t X : ByteArray} (hs : s.size ≤ 800) (hts : t.size ≤ 800) {l m : List Tk} {z y : Tk} (h : lexK s = .ok (l, z)) (h' : lexK t = .ok (m, y)) (k : Nat) (hX : X.data.toList = 40 :: (s.data.toList ++ 10 :: (41 :: 32 :: (opB k ++ 32 :: 40 :: (t.data.toList ++ [10, 41]))))) :
    ∃ o l' c p o2 m' c2 z', lexK X = .ok (o :: (l' ++ c :: p :: o2 :: (m' ++ [c2])), z') ∧ RR l l' ∧ RR m m' ∧ z'.kind = 0 ∧ (o.kind = 6 ∧ o.text = ⟨#[40]⟩) ∧ (c.kind = 6 ∧ c.text = ⟨#[41]⟩) ∧ (p.kind = 6 ∧ p.text = ⟨(opB k).toArray⟩) ∧ (o2.kind = 6 ∧ o2.text = ⟨#[40]⟩) ∧ c2.kind = 6 ∧ c2.text = ⟨#[41]⟩ := by
  obtain ⟨R, U, v1, v2, v3, v4, v5, v6, v7⟩ := lexK_runes hs h
  obtain ⟨R2, U2, u1, u2, u3, u4, u5, u6, u7⟩ := lexK_runes hts h'
  obtain ⟨q1, q2, q3, q4⟩ := enc_small
  obtain ⟨p1, p2⟩ := opR_ok k
  have p3 := opR_len k
  have hob : (opB k).length ≤ 2 := by
    match k with
    | 0 => decide
    | 1 => decide
    | 2 => decide
    | 3 => decide
    | 4 => decide
    | 5 => decide
    | 6 => decide
    | k + 7 => exact Nat.le_refl 2
  have hsz : X.size ≤ 3000 := by
    rw [size_l X, hX]
    have := size_l s
    have := size_l t
    simp only [List.length_cons, List.length_append, List.length_nil]; omega
  obtain ⟨w1, w2⟩ := bare_snd hsz (R := 40 :: (R ++ 10 :: (41 :: 32 :: (opR k ++ 32 :: 40 :: (R2 ++ 10 :: [41]))))) (by
    intro c hc
    simp only [List.mem_cons, List.mem_append, List.not_mem_nil, or_false] at hc
    rcases hc with rfl | hc | rfl | rfl | rfl | hc | rfl | rfl | hc | rfl | rfl
    · decide
    · exact v1 c hc
    · decide
    · decide
    · decide
    · exact p1 c hc
    · decide
    · decide
    · exact u1 c hc
    · decide
    · decide) (by
    rw [hX, v2, u2, ← p2]
    simp only [List.flatMap_cons, List.flatMap_append, List.flatMap_nil, q1, q2, q3, q4, List.cons_append, List.nil_append, List.append_nil])
  rw [lex_both v4 u4 k _ (by omega)] at w1
  rw [show sg [40] :: ((U ++ [endT]).dropLast ++ (sg [41] :: sg (opB k) :: sg [40] :: ((U2 ++ [endT]).dropLast ++ [sg [41], endT]))) = (sg [40] :: (U ++ (sg [41] :: sg (opB k) :: sg [40] :: (U2 ++ [sg [41]])))) ++ [endT] by simp] at w1
  obtain ⟨lx, zx, h1, h2, h3⟩ := lexK_bare w1
  simp only [List.map_cons, List.map_append, List.map_nil] at h2
  obtain ⟨o, y1, rfl, h4, h5⟩ := map_one h2
  obtain ⟨l', y2, rfl, h6, h7⟩ := map_split h5
  obtain ⟨c, y3, rfl, h8, h9⟩ := map_one h7
  obtain ⟨p, y4, rfl, h10, h11⟩ := map_one h9
  obtain ⟨o2, y5, rfl, h12, h13⟩ := map_one h11
  obtain ⟨m', y6, rfl, h14, h15⟩ := map_split h13
  obtain ⟨c2, y7, rfl, h16, h17⟩ := map_one h15
  obtain rfl : y7 = [] := by simpa using h17
  exact ⟨o, l', c, p, o2, m', c2, zx, h1, ⟨by rw [v5, h6], v6⟩, ⟨by rw [u5, h14], u6⟩, h3, sign_of h4, sign_of h8, sign_of h10, sign_of h12, (sign_of h16).1, (sign_of h16).2⟩
end Go.Proofs.YtjhnmikciejekaaGreat.Deep

namespace Go.Proofs.YtjhnmikciejekaaGreat.Deep
open Go.RowKit
set_option linter.unusedVariables false
set_option linter.unusedSimpArgs false
section
variable {z : Tk} {o c : Tk} {W r2 : List Tk}
theorem st_sign {t : Tk} (hk : t.kind = 6) {b : ByteArray} (ht : t.text = b) (s : ByteArray) : stB z (t :: W) s = ifB (eqB b s) true (eqB e0 s) := by
  show ifB (eqB (ifB (t.kind == 6) t.text e0) s) true (eqB (ifB (t.kind == 5) t.text e0) s) = _
  rw [hk, ht]; rfl
theorem want_here {t : Tk} (hk : t.kind = 6) {s : ByteArray} (ht : t.text = s) (hs : eqB s s = true) : wantS z s (t :: W) false = .ok ((), W, false) := by
  unfold wantS skipS
  rw [st_sign hk ht, hs]; rfl
theorem skip_not {t : Tk} (hk : t.kind = 6) {b s : ByteArray} (ht : t.text = b) (hs : eqB b s = false) (h0 : eqB e0 s = false) : skipS z s (t :: W) false = .ok (false, t :: W, false) := by
  unfold skipS
  rw [st_sign hk ht, hs]
  show ifB (eqB e0 s) _ _ = _
  rw [h0]; rfl
theorem atom_paren (ho : o.kind = 6) (hot : o.text = ⟨#[40]⟩) (hc : c.kind = 6) (hct : c.text = ⟨#[41]⟩) {ex : Rd Ex} {l' : List Tk} {e : Ex} (he : ex (l' ++ c :: r2) false = .ok (e, c :: r2, false)) : atomS z ex (o :: (l' ++ c :: r2)) false = .ok (e, r2, false) := by
  have hk : (hd z (o :: (l' ++ c :: r2))).kind = 6 := ho
  have st : ∀ s, stB z (o :: (l' ++ c :: r2)) s = ifB (eqB ⟨#[40]⟩ s) true (eqB e0 s) := fun s => st_sign ho hot s
  have hlis : lisS z ex ⟨#[44]⟩ 6 (l' ++ c :: r2) false = .ok ([e], c :: r2, false) := by
    unfold lisS listS
    show bnd (ex (l' ++ c :: r2) false) _ = _
    rw [he]
    show bnd (skipS z ⟨#[44]⟩ (c :: r2) false) _ = _
    rw [skip_not hc hct (by decide +kernel) (by decide +kernel)]; rfl
  have hin : insideS z ex ⟨#[44]⟩ 6 (o :: (l' ++ c :: r2)) false = .ok ([e], r2, false) := by
    unfold insideS
    rw [want_here ho hot (by decide +kernel)]
    show bnd (lisS z ex ⟨#[44]⟩ 6 (l' ++ c :: r2) false) _ = _
    rw [hlis]
    show bnd (wantS z ⟨#[41]⟩ (c :: r2) false) _ = _
    rw [want_here hc hct (by decide +kernel)]; rfl
  have hsev : sevS z ex (o :: (l' ++ c :: r2)) false = .ok (e, r2, false) := by
    unfold sevS
    dsimp only
    rw [hin]; rfl
  unfold atomS
  dsimp only
  rw [hk, st, st, st, hsev]
  rw [show ifB (eqB (⟨#[40]⟩ : ByteArray) ⟨#[126]⟩) true (eqB e0 ⟨#[126]⟩) = false by decide +kernel, show ifB (eqB (⟨#[40]⟩ : ByteArray) ⟨#[115, 116, 97, 116, 101]⟩) true (eqB e0 ⟨#[115, 116, 97, 116, 101]⟩) = false by decide +kernel, show ifB (eqB (⟨#[40]⟩ : ByteArray) ⟨#[40]⟩) true (eqB e0 ⟨#[40]⟩) = true by decide +kernel]
  rfl
theorem chain_none {opf : ByteArray → Int × Bool} {p : Rd Ex} {v : Ex} {r : List Tk} (hp : p W false = .ok (v, r, false)) (ho : (opf (textB z 6 r)).2 = false) : chainS z opf p W false = .ok (v, r, false) := by
  unfold chainS
  rw [hp]
  show chS z opf p (r.length + 1) v r false = _
  unfold chS
  rw [ho]; rfl
theorem op_ok {p : Rd Ex} {v v2 w : Ex} {t : Tk} {W2 : List Tk} {k : Int} (h2 : p W2 false = .ok (v2, [], false)) (hw : wholeE (.mk 9 t.li t.co k [] e0 [v, v2] [] []) = .ok w) : opS z p k v (t :: W2) false = .ok (w, [], false) := by
  unfold opS
  show bnd (p W2 false) _ = _
  rw [h2]
  show bndE (wholeE (.mk 9 t.li t.co k [] e0 [v, v2] [] [])) _ = _
  rw [hw]; rfl
theorem chain_op (hz : z.kind = 0) {opf : ByteArray → Int × Bool} (hn : (opf e0).2 = false) {p : Rd Ex} {v v2 w : Ex} {t : Tk} {W2 : List Tk} {k : Int} {b : ByteArray} (hk : t.kind = 6) (ht : t.text = b) (ho : opf b = (k, true)) (hp : p W false = .ok (v, t :: W2, false)) (h2 : p W2 false = .ok (v2, [], false))
    (hw : wholeE (.mk 9 t.li t.co k [] e0 [v, v2] [] []) = .ok w) : chainS z opf p W false = .ok (w, [], false) := by
  have hx : textB z 6 (t :: W2) = b := by
    show ifB (t.kind == 6) t.text e0 = b
    rw [hk, ht]; rfl
  have hx0 : textB z 6 [] = e0 := by
    show ifB (z.kind == 6) z.text e0 = e0
    rw [hz]; rfl
  unfold chainS
  rw [hp]
  show chS z opf p ((t :: W2).length + 1) v (t :: W2) false = _
  unfold chS
  rw [hx, ho]
  show bnd (opS z p k v (t :: W2) false) _ = _
  rw [op_ok h2 hw]
  show chS z opf p (t :: W2).length w [] false = _
  show chS z opf p (W2.length + 1) w [] false = _
  unfold chS
  rw [hx0, hn]; rfl
theorem prod_of {ex : Rd Ex} {v : Ex} {r : List Tk} (h : chainS z opTim (atomS z ex) W false = .ok (v, r, false)) : prodS z ex W false = .ok (v, r, false) := by unfold prodS; rw [h]; rfl
theorem sum_of {ex : Rd Ex} {v : Ex} {r : List Tk} (h : chainS z opSum (prodS z ex) W false = .ok (v, r, false)) : sumS z ex W false = .ok (v, r, false) := by unfold sumS; rw [h]; rfl
theorem cmp_none {ex : Rd Ex} {v : Ex} {r : List Tk} (h : sumS z ex W false = .ok (v, r, false)) (ho : (opComp (textB z 6 r)).2 = false) : cmpS z ex W false = .ok (v, r, false) := by
  unfold cmpS
  rw [h]
  show ifB (opComp (textB z 6 r)).2 _ _ = _
  rw [ho]; rfl
theorem cmp_op {ex : Rd Ex} {v v2 w : Ex} {t : Tk} {W2 : List Tk} {k : Int} {b : ByteArray} (hk : t.kind = 6) (ht : t.text = b) (ho : opComp b = (k, true)) (h : sumS z ex W false = .ok (v, t :: W2, false)) (h2 : sumS z ex W2 false = .ok (v2, [], false)) (hw : wholeE (.mk 9 t.li t.co k [] e0 [v, v2] [] []) = .ok w) : cmpS z ex W false = .ok (w, [], false) := by
  have hx : textB z 6 (t :: W2) = b := by
    show ifB (t.kind == 6) t.text e0 = b
    rw [hk, ht]; rfl
  unfold cmpS
  rw [h]
  show ifB (opComp (textB z 6 (t :: W2))).2 (bnd (opS z (sumS z ex) (opComp (textB z 6 (t :: W2))).1 v (t :: W2) false) _) _ = _
  rw [hx, ho]
  show bnd (opS z (sumS z ex) k v (t :: W2) false) _ = _
  rw [op_ok h2 hw]; rfl
theorem expr_paren (ho : o.kind = 6) {ex : Rd Ex} {pt : Rd Pt} {v : Ex} {r : List Tk} (h : cmpS z ex (o :: W) false = .ok (v, r, false)) : exprS z ex pt (o :: W) false = .ok (v, r, false) := by
  have hx : textB z 5 (o :: W) = e0 := by
    show ifB (o.kind == 5) o.text e0 = e0
    rw [ho]; rfl
  unfold exprS
  dsimp only
  rw [hx, h]
  rw [show eqB e0 ⟨#[108, 101, 116]⟩ = false by decide +kernel, show eqB e0 ⟨#[105, 102]⟩ = false by decide +kernel, show eqB e0 ⟨#[109, 97, 116, 99, 104]⟩ = false by decide +kernel, show eqB e0 ⟨#[102, 111, 114]⟩ = false by decide +kernel]
  rfl
theorem text_nil (hz : z.kind = 0) : textB z 6 [] = e0 := by
  show ifB (z.kind == 6) z.text e0 = e0
  rw [hz]; rfl
theorem text_sign {t : Tk} (hk : t.kind = 6) {b : ByteArray} (ht : t.text = b) : textB z 6 (t :: W) = b := by
  show ifB (t.kind == 6) t.text e0 = b
  rw [hk, ht]; rfl
theorem expr_alone (hz : z.kind = 0) (ho : o.kind = 6) (hot : o.text = ⟨#[40]⟩) (hc : c.kind = 6) (hct : c.text = ⟨#[41]⟩) {ex : Rd Ex} {pt : Rd Pt} {l' : List Tk} {e : Ex} (he : ex (l' ++ [c]) false = .ok (e, [c], false)) : exprS z ex pt (o :: (l' ++ [c])) false = .ok (e, [], false) := by
  have hx := text_nil hz
  have h1 := atom_paren (z := z) ho hot hc hct he
  have h2 := prod_of (chain_none h1 (by rw [hx]; decide +kernel))
  have h3 := sum_of (chain_none h2 (by rw [hx]; decide +kernel))
  exact expr_paren ho (cmp_none h3 (by rw [hx]; decide +kernel))
theorem op_class (k : Nat) (hk : k < 8) : (2 ≤ k ∧ k ≤ 4 ∧ opTim ⟨(opB k).toArray⟩ = ((k : Int), true)) ∨ (k ≤ 1 ∧ (opTim ⟨(opB k).toArray⟩).2 = false ∧ opSum ⟨(opB k).toArray⟩ = ((k : Int), true)) ∨
    ((opTim ⟨(opB k).toArray⟩).2 = false ∧ (opSum ⟨(opB k).toArray⟩).2 = false ∧ opComp ⟨(opB k).toArray⟩ = ((k : Int), true)) := by
  match k, hk with
  | 0, _ => exact .inr (.inl (by decide +kernel))
  | 1, _ => exact .inr (.inl (by decide +kernel))
  | 2, _ => exact .inl (by decide +kernel)
  | 3, _ => exact .inl (by decide +kernel)
  | 4, _ => exact .inl (by decide +kernel)
  | 5, _ => exact .inr (.inr (by decide +kernel))
  | 6, _ => exact .inr (.inr (by decide +kernel))
  | 7, _ => exact .inr (.inr (by decide +kernel))
theorem expr_two (hz : z.kind = 0) (ho : o.kind = 6) (hot : o.text = ⟨#[40]⟩) (hc : c.kind = 6) (hct : c.text = ⟨#[41]⟩) {p o2 c2 : Tk} {k : Nat} (hk : k < 8) (hp : p.kind = 6) (hpt : p.text = ⟨(opB k).toArray⟩) (ho2 : o2.kind = 6) (hot2 : o2.text = ⟨#[40]⟩) (hc2 : c2.kind = 6) (hct2 : c2.text = ⟨#[41]⟩)
    {ex : Rd Ex} {pt : Rd Pt} {l' m' : List Tk} {e e2 w : Ex} (he : ex (l' ++ c :: p :: o2 :: (m' ++ [c2])) false = .ok (e, c :: p :: o2 :: (m' ++ [c2]), false)) (he2 : ex (m' ++ [c2]) false = .ok (e2, [c2], false)) (hw : wholeE (.mk 9 p.li p.co k [] e0 [e, e2] [] []) = .ok w) :
    exprS z ex pt (o :: (l' ++ c :: p :: o2 :: (m' ++ [c2]))) false = .ok (w, [], false) := by
  have hx := text_nil hz
  have hx2 : textB z 6 (p :: o2 :: (m' ++ [c2])) = _ := text_sign hp hpt
  have a1 := atom_paren (z := z) ho hot hc hct he
  have a2 := atom_paren (z := z) ho2 hot2 hc2 hct2 he2
  refine expr_paren ho ?_
  rcases op_class k hk with ⟨_, _, q1⟩ | ⟨_, q1, q2⟩ | ⟨q1, q2, q3⟩
  · have b1 := prod_of (chain_op hz (by decide +kernel) hp hpt q1 a1 a2 hw)
    exact cmp_none (sum_of (chain_none b1 (by rw [hx]; decide +kernel))) (by rw [hx]; decide +kernel)
  · have b1 := prod_of (chain_none a1 (by rw [hx2]; exact q1))
    have b2 := prod_of (chain_none a2 (by rw [hx]; decide +kernel))
    exact cmp_none (sum_of (chain_op hz (by decide +kernel) hp hpt q2 b1 b2 hw)) (by rw [hx]; decide +kernel)
  · have b1 := sum_of (chain_none (prod_of (chain_none a1 (by rw [hx2]; exact q1))) (by rw [hx2]; exact q2))
    have b2 := sum_of (chain_none (prod_of (chain_none a2 (by rw [hx]; decide +kernel))) (by rw [hx]; decide +kernel))
    exact cmp_op hp hpt q3 b1 b2 hw
end
abbrev rdE : Tk → Rd Ex := fun z l b => pE z (l.length + 1) l b
theorem face_out {s : ByteArray} {e : Ex} (h : faceS rdE s = .ok e) : ∃ l z l1 b1, lexK s = .ok (l, z) ∧ pE z (l.length + 1) l false = .ok (e, l1, b1) ∧ (hd z l1).kind = 0 := by
  unfold faceS at h
  split at h
  · cases h
  · rename_i l z hl
    split at h
    · cases h
    · rename_i v l1 b1 hx
      split at h
      · cases h
      · rename_i q hq
        injection h with h
        subst h
        refine ⟨l, z, l1, b1, hl, hx, ?_⟩
        unfold wantEndS at hq
        rcases ifB_cases hq with ⟨h1, h2⟩ | ⟨h1, h2⟩
        · cases h2
        · simpa using h1
theorem face_in {s : ByteArray} {e : Ex} {l : List Tk} {z : Tk} (h : lexK s = .ok (l, z)) (hz : z.kind = 0) (he : pE z (l.length + 1) l false = .ok (e, [], false)) : faceS rdE s = .ok e := by
  have hw : wantEndS z [] false = .ok ((), [], false) := by
    unfold wantEndS
    show ifB (!(z.kind == 0)) _ _ = _
    rw [hz]; rfl
  simp only [faceS, h, he, hw]
theorem max3 {a b : Int} (ha : a ≤ 63) (hb : b ≤ 63) : 0 ≤ maxI (maxI (maxI 0 a) b) 0 ∧ maxI (maxI (maxI 0 a) b) 0 ≤ 63 := by
  unfold maxI
  constructor <;> (repeat' split) <;> omega
theorem inner {z z' c : Tk} (hz : z.kind = 0) (hc : c.kind = 6) (hct : c.text = ⟨#[41]⟩) {r2 l l' : List Tk} {e : Ex} {l1 : List Tk} {b1 : Bool} (hr : RR l l') (h : pE z (l.length + 1) l false = .ok (e, l1, b1)) (h1 : (hd z l1).kind = 0) (n : Nat) (hn : l.length + 1 ≤ n) :
    ∃ e', pE z' n (l' ++ c :: r2) false = .ok (e', c :: r2, false) ∧ bareE e = bareE e' := by
  obtain ⟨e', l1', h2, h3, h4⟩ := pE_sm (z' := z') (r2 := r2) hz hc hct _ n hn l l' false hr _ _ _ h
  have hl1 : l1 = [] := by
    cases l1 with
    | nil => rfl
    | cons t m => exact absurd h1 (h3.2 t (by simp))
  subst hl1
  obtain rfl := h3.nil
  have hb := cl_E _ _ _ _ _ _ h
  subst hb
  exact ⟨e', h2, h4⟩
theorem parens_one {s X : ByteArray} (hs : s.size ≤ 800) {e : Ex} (h : faceS rdE s = .ok e) (hX : X.data.toList = 40 :: (s.data.toList ++ [10, 41])) : ∃ e', faceS rdE X = .ok e' ∧ bareE e = bareE e' := by
  obtain ⟨l, z, l1, b1, h1, h2, h3⟩ := face_out h
  obtain ⟨R, U, _, _, _, _, _, _, hz⟩ := lexK_runes hs h1
  obtain ⟨o, l', c, z', g1, g2, g3, g4, g5, g6, g7⟩ := one_paren hs h1 hX
  obtain ⟨e', k1, k2⟩ := inner (z' := z') (r2 := []) hz g6 g7 g2 h2 h3 (l'.length + 2) (by rw [g2.len]; omega)
  refine ⟨e', face_in g1 g3 ?_, k2⟩
  have hl : (o :: (l' ++ [c])).length + 1 = (l'.length + 2) + 1 := by simp
  rw [hl]
  exact expr_alone g3 g4 g5 g6 g7 k1
theorem parens_two {s t X : ByteArray} (hs : s.size ≤ 800) (hts : t.size ≤ 800) {a c : Ex} (h : faceS rdE s = .ok a) (h' : faceS rdE t = .ok c) (k : Nat) (hk : k < 8) (ha : depE a ≤ 63) (hc : depE c ≤ 63) (hX : X.data.toList = 40 :: (s.data.toList ++ 10 :: (41 :: 32 :: (opB k ++ 32 :: 40 :: (t.data.toList ++ [10, 41]))))) :
    ∃ li co a' c', faceS rdE X = .ok (.mk 9 li co k [] e0 [a', c'] [] []) ∧ bareE a = bareE a' ∧ bareE c = bareE c' := by
  obtain ⟨l, z, l1, b1, h1, h2, h3⟩ := face_out h
  obtain ⟨m, y, m1, d1, i1, i2, i3⟩ := face_out h'
  obtain ⟨R, U, _, _, _, _, _, _, hz⟩ := lexK_runes hs h1
  obtain ⟨R2, U2, _, _, _, _, _, _, hy⟩ := lexK_runes hts i1
  obtain ⟨o, l', c1, p, o2, m', c2, z', g1, g2, g2', g3, ⟨g4, g5⟩, ⟨g6, g7⟩, ⟨g8, g9⟩, ⟨g10, g11⟩, g12, g13⟩ := two_parens hs hts h1 i1 k hX
  obtain ⟨N, hN⟩ : ∃ N, (o :: (l' ++ c1 :: p :: o2 :: (m' ++ [c2]))).length + 1 = N + 1 := ⟨_, rfl⟩
  have hN' := hN
  simp only [List.length_cons, List.length_append, List.length_nil] at hN'
  obtain ⟨a', k1, k2⟩ := inner (z' := z') (r2 := p :: o2 :: (m' ++ [c2])) hz g6 g7 g2 h2 h3 N (by rw [g2.len]; omega)
  obtain ⟨c', k3, k4⟩ := inner (z' := z') (r2 := []) hy g12 g13 g2' i2 i3 N (by rw [g2'.len]; omega)
  refine ⟨p.li, p.co, a', c', face_in g1 g3 ?_, k2, k4⟩
  rw [hN]
  refine expr_two g3 g4 g5 g6 g7 hk g8 g9 g10 g11 g12 g13 k1 k3 ?_
  have e1 : depE a' ≤ 63 := by rw [← depE_bare, ← k2, depE_bare]; exact ha
  have e2 : depE c' ≤ 63 := by rw [← depE_bare, ← k4, depE_bare]; exact hc
  have hargs : argsI (k : Int) = 2 := by
    match k, hk with
    | 0, _ => decide
    | 1, _ => decide
    | 2, _ => decide
    | 3, _ => decide
    | 4, _ => decide
    | 5, _ => decide
    | 6, _ => decide
    | 7, _ => decide
  have hd : depE (.mk 9 p.li p.co k [] e0 [a', c'] [] []) ≤ 64 := by
    rw [depE]
    show IntKind.i64.wrap (1 + maxI (maxI (maxI 0 (depE a')) (depE c')) 0) ≤ 64
    obtain ⟨q1, q2⟩ := max3 e1 e2
    rw [wrap_id (by omega) (by omega)]; omega
  have hd2 : decide (depE (.mk 9 p.li p.co k [] e0 [a', c'] [] []) > 64) = false := by simpa using hd
  unfold wholeE
  show ifB ((9 : Int) == 9) (ifB (((exPs [a', c']).length : Int) != argsI k) _ (deepS (depE (.mk 9 p.li p.co k [] e0 [a', c'] [] [])) _ _ _)) _ = _
  rw [hargs, exPs_len]
  show deepS (depE (.mk 9 p.li p.co k [] e0 [a', c'] [] [])) _ _ _ = _
  unfold deepS
  rw [hd2]; rfl
end Go.Proofs.YtjhnmikciejekaaGreat.Deep

namespace Go.Proofs.YtjhnmikciejekaaGreat.Deep
open Go.RowKit
set_option linter.unusedVariables false
set_option linter.unusedSimpArgs false
def Nz {α : Type} (X : Except Flt α) : Prop := ∀ f, X = .error f → f.e ≠ 0
theorem nz_bnd {α β : Type} {X : Re α} {K : α → List Tk → Bool → Re β} (h : Nz X) (k : ∀ v l b, Nz (K v l b)) : Nz (bnd X K) := fun f hx => by
  cases X with
  | error q => injection hx with hx; subst hx; exact h _ rfl
  | ok y => exact k _ _ _ _ hx
theorem nz_bndE {α β : Type} {X : Except Flt α} {K : α → Re β} (h : Nz X) (k : ∀ v, Nz (K v)) : Nz (bndE X K) := fun f hx => by
  cases X with
  | error q => injection hx with hx; subst hx; exact h _ rfl
  | ok y => exact k _ _ hx
theorem nz_ite {α : Type} {c : Bool} {x y : Except Flt α} (hx : Nz x) (hy : Nz y) : Nz (ifB c x y) := by cases c <;> assumption
theorem nz_ok {α : Type} {v : α} : Nz (.ok v : Except Flt α) := fun f h => by cases h
theorem nz_err {α : Type} {e li co : Int} (h : e ≠ 0) : Nz (.error ⟨e, li, co⟩ : Except Flt α) := fun f hx => by injection hx with hx; subst hx; exact h
theorem nz_want' {α : Type} {z : Tk} {l : List Tk} : Nz (.error (wantF z l) : Except Flt α) := nz_err (by decide)
theorem nz_deep {α : Type} (d li co : Int) (v : α) : Nz (deepS d li co v) := nz_ite (nz_err (by decide)) nz_ok
theorem nz_wholeE (e : Ex) : Nz (wholeE e) := nz_ite (nz_ite (nz_err (by decide)) (nz_deep _ _ _ _)) (nz_deep _ _ _ _)
theorem nz_wholeP (e : Pt) : Nz (wholeP e) := nz_deep _ _ _ _
section
variable {z : Tk}
theorem nz_take (l : List Tk) (b : Bool) : Nz (takeS z l b) := nz_ite (nz_err (by decide)) nz_ok
theorem nz_skip (s : ByteArray) (l : List Tk) (b : Bool) : Nz (skipS z s l b) := by
  unfold skipS
  try dsimp only
  repeat' (first | exact nz_ok | exact nz_want' | exact nz_err (by decide) | refine nz_ite ?_ ?_ | refine nz_bndE (by first | exact nz_wholeE _ | exact nz_wholeP _) (fun _ => ?_) | refine nz_bnd (by first | exact nz_take _ _) (fun _ _ _ => ?_) | (dsimp only))
theorem nz_want (s : ByteArray) (l : List Tk) (b : Bool) : Nz (wantS z s l b) := by
  unfold wantS
  try dsimp only
  repeat' (first | exact nz_ok | exact nz_want' | exact nz_err (by decide) | refine nz_ite ?_ ?_ | refine nz_bndE (by first | exact nz_wholeE _ | exact nz_wholeP _) (fun _ => ?_) | refine nz_bnd (by first | exact nz_take _ _ | exact nz_skip _ _ _) (fun _ _ _ => ?_) | (dsimp only))
theorem nz_kind (k : Int) (l : List Tk) (b : Bool) : Nz (kindS z k l b) := by
  unfold kindS
  try dsimp only
  repeat' (first | exact nz_ok | exact nz_want' | exact nz_err (by decide) | refine nz_ite ?_ ?_ | refine nz_bndE (by first | exact nz_wholeE _ | exact nz_wholeP _) (fun _ => ?_) | refine nz_bnd (by first | exact nz_take _ _ | exact nz_skip _ _ _ | exact nz_want _ _ _) (fun _ _ _ => ?_) | (dsimp only))
theorem nz_low (l : List Tk) (b : Bool) : Nz (lowS z l b) := by
  unfold lowS
  try dsimp only
  repeat' (first | exact nz_ok | exact nz_want' | exact nz_err (by decide) | refine nz_ite ?_ ?_ | refine nz_bndE (by first | exact nz_wholeE _ | exact nz_wholeP _) (fun _ => ?_) | refine nz_bnd (by first | exact nz_take _ _ | exact nz_skip _ _ _ | exact nz_want _ _ _ | exact nz_kind _ _ _) (fun _ _ _ => ?_) | (dsimp only))
theorem nz_within (lo hi : Int) (l : List Tk) (b : Bool) : Nz (withinS z lo hi l b) := by
  unfold withinS
  try dsimp only
  repeat' (first | exact nz_ok | exact nz_want' | exact nz_err (by decide) | refine nz_ite ?_ ?_ | refine nz_bndE (by first | exact nz_wholeE _ | exact nz_wholeP _) (fun _ => ?_) | refine nz_bnd (by first | exact nz_take _ _ | exact nz_skip _ _ _ | exact nz_want _ _ _ | exact nz_kind _ _ _ | exact nz_low _ _) (fun _ _ _ => ?_) | (dsimp only))
theorem nz_number (l : List Tk) (b : Bool) : Nz (numberS z l b) := by
  unfold numberS
  try dsimp only
  repeat' (first | exact nz_ok | exact nz_want' | exact nz_err (by decide) | refine nz_ite ?_ ?_ | refine nz_bndE (by first | exact nz_wholeE _ | exact nz_wholeP _) (fun _ => ?_) | refine nz_bnd (by first | exact nz_take _ _ | exact nz_skip _ _ _ | exact nz_want _ _ _ | exact nz_kind _ _ _ | exact nz_low _ _ | exact nz_within _ _ _ _) (fun _ _ _ => ?_) | (dsimp only))
theorem nz_list {α : Type} {p : Rd α} (hp : ∀ l b, Nz (p l b)) (btw : ByteArray) (most : Int) : ∀ (n : Nat) (acc : List α) (l : List Tk) (b : Bool), Nz (listS z p btw most n acc l b)
  | 0, acc, l, b => nz_ok
  | n + 1, acc, l, b => by
    unfold listS
    exact nz_bnd (hp _ _) (fun a l1 b1 => nz_bnd (nz_skip _ _ _) (fun t l2 b2 => nz_ite nz_ok (nz_list hp btw most n _ l2 b2)))
theorem nz_lis {α : Type} {p : Rd α} (hp : ∀ l b, Nz (p l b)) (btw : ByteArray) (most : Int) (l : List Tk) (b : Bool) : Nz (lisS z p btw most l b) := nz_list hp btw most _ _ l b
theorem nz_inside {α : Type} {p : Rd α} (hp : ∀ l b, Nz (p l b)) (btw : ByteArray) (most : Int) (l : List Tk) (b : Bool) : Nz (insideS z p btw most l b) := by
  unfold insideS
  try dsimp only
  repeat' (first | exact nz_ok | exact nz_want' | exact nz_err (by decide) | refine nz_ite ?_ ?_ | refine nz_bndE (by first | exact nz_wholeE _ | exact nz_wholeP _) (fun _ => ?_) | refine nz_bnd (by first | exact nz_take _ _ | exact nz_skip _ _ _ | exact nz_want _ _ _ | exact nz_kind _ _ _ | exact nz_low _ _ | exact nz_within _ _ _ _ | exact nz_number _ _ | exact nz_lis hp _ _ _ _) (fun _ _ _ => ?_) | (dsimp only))
theorem nz_opt {α : Type} {p : Rd α} (hp : ∀ l b, Nz (p l b)) (l : List Tk) (b : Bool) : Nz (optS z p l b) := by
  unfold optS
  try dsimp only
  repeat' (first | exact nz_ok | exact nz_want' | exact nz_err (by decide) | refine nz_ite ?_ ?_ | refine nz_bndE (by first | exact nz_wholeE _ | exact nz_wholeP _) (fun _ => ?_) | refine nz_bnd (by first | exact nz_take _ _ | exact nz_skip _ _ _ | exact nz_want _ _ _ | exact nz_kind _ _ _ | exact nz_low _ _ | exact nz_within _ _ _ _ | exact nz_number _ _ | exact nz_inside hp _ _ _ _) (fun _ _ _ => ?_) | (dsimp only))
theorem nz_sevP {pt : Rd Pt} (hp : ∀ l b, Nz (pt l b)) (l : List Tk) (b : Bool) : Nz (sevPS z pt l b) := by
  unfold sevPS
  try dsimp only
  repeat' (first | exact nz_ok | exact nz_want' | exact nz_err (by decide) | refine nz_ite ?_ ?_ | refine nz_bndE (by first | exact nz_wholeE _ | exact nz_wholeP _) (fun _ => ?_) | refine nz_bnd (by first | exact nz_take _ _ | exact nz_skip _ _ _ | exact nz_want _ _ _ | exact nz_kind _ _ _ | exact nz_low _ _ | exact nz_within _ _ _ _ | exact nz_number _ _ | exact nz_inside hp _ _ _ _) (fun _ _ _ => ?_) | (dsimp only))
theorem nz_pat {pt : Rd Pt} (hp : ∀ l b, Nz (pt l b)) (l : List Tk) (b : Bool) : Nz (patS z pt l b) := by
  unfold patS
  try dsimp only
  repeat' (first | exact nz_ok | exact nz_want' | exact nz_err (by decide) | refine nz_ite ?_ ?_ | refine nz_bndE (by first | exact nz_wholeE _ | exact nz_wholeP _) (fun _ => ?_) | refine nz_bnd (by first | exact nz_take _ _ | exact nz_skip _ _ _ | exact nz_want _ _ _ | exact nz_kind _ _ _ | exact nz_low _ _ | exact nz_within _ _ _ _ | exact nz_number _ _ | exact nz_opt hp _ _ | exact nz_sevP hp _ _) (fun _ _ _ => ?_) | (dsimp only))
theorem nz_P : ∀ (n : Nat) (l : List Tk) (b : Bool), Nz (pP z n l b)
  | 0, l, b => nz_want'
  | n + 1, l, b => nz_pat (nz_P n) l b
theorem nz_behind {ex : Rd Ex} (he : ∀ l b, Nz (ex l b)) (s : ByteArray) (l : List Tk) (b : Bool) : Nz (behindS z ex s l b) := by
  unfold behindS
  try dsimp only
  repeat' (first | exact nz_ok | exact nz_want' | exact nz_err (by decide) | refine nz_ite ?_ ?_ | refine nz_bndE (by first | exact nz_wholeE _ | exact nz_wholeP _) (fun _ => ?_) | refine nz_bnd (by first | exact nz_take _ _ | exact nz_skip _ _ _ | exact nz_want _ _ _ | exact nz_kind _ _ _ | exact nz_low _ _ | exact nz_within _ _ _ _ | exact nz_number _ _ | exact he _ _) (fun _ _ _ => ?_) | (dsimp only))
theorem nz_let {ex : Rd Ex} (he : ∀ l b, Nz (ex l b)) (l : List Tk) (b : Bool) : Nz (letS z ex l b) := by
  unfold letS
  try dsimp only
  repeat' (first | exact nz_ok | exact nz_want' | exact nz_err (by decide) | refine nz_ite ?_ ?_ | refine nz_bndE (by first | exact nz_wholeE _ | exact nz_wholeP _) (fun _ => ?_) | refine nz_bnd (by first | exact nz_take _ _ | exact nz_skip _ _ _ | exact nz_want _ _ _ | exact nz_kind _ _ _ | exact nz_low _ _ | exact nz_within _ _ _ _ | exact nz_number _ _ | exact nz_behind he _ _ _) (fun _ _ _ => ?_) | (dsimp only))
theorem nz_cond {ex : Rd Ex} (he : ∀ l b, Nz (ex l b)) (l : List Tk) (b : Bool) : Nz (condS z ex l b) := by
  unfold condS
  try dsimp only
  repeat' (first | exact nz_ok | exact nz_want' | exact nz_err (by decide) | refine nz_ite ?_ ?_ | refine nz_bndE (by first | exact nz_wholeE _ | exact nz_wholeP _) (fun _ => ?_) | refine nz_bnd (by first | exact nz_take _ _ | exact nz_skip _ _ _ | exact nz_want _ _ _ | exact nz_kind _ _ _ | exact nz_low _ _ | exact nz_within _ _ _ _ | exact nz_number _ _ | exact nz_behind he _ _ _) (fun _ _ _ => ?_) | (dsimp only))
theorem nz_loop {ex : Rd Ex} (he : ∀ l b, Nz (ex l b)) (l : List Tk) (b : Bool) : Nz (loopS z ex l b) := by
  unfold loopS
  try dsimp only
  repeat' (first | exact nz_ok | exact nz_want' | exact nz_err (by decide) | refine nz_ite ?_ ?_ | refine nz_bndE (by first | exact nz_wholeE _ | exact nz_wholeP _) (fun _ => ?_) | refine nz_bnd (by first | exact nz_take _ _ | exact nz_skip _ _ _ | exact nz_want _ _ _ | exact nz_kind _ _ _ | exact nz_low _ _ | exact nz_within _ _ _ _ | exact nz_number _ _ | exact nz_behind he _ _ _) (fun _ _ _ => ?_) | (dsimp only))
theorem nz_arm {ex : Rd Ex} (he : ∀ l b, Nz (ex l b)) {pt : Rd Pt} (hp : ∀ l b, Nz (pt l b)) (l : List Tk) (b : Bool) : Nz (armS z ex pt l b) := by
  unfold armS
  try dsimp only
  repeat' (first | exact nz_ok | exact nz_want' | exact nz_err (by decide) | refine nz_ite ?_ ?_ | refine nz_bndE (by first | exact nz_wholeE _ | exact nz_wholeP _) (fun _ => ?_) | refine nz_bnd (by first | exact nz_take _ _ | exact nz_skip _ _ _ | exact nz_want _ _ _ | exact nz_kind _ _ _ | exact nz_low _ _ | exact nz_within _ _ _ _ | exact nz_number _ _ | exact hp _ _ | exact nz_behind he _ _ _) (fun _ _ _ => ?_) | (dsimp only))
theorem nz_match {ex : Rd Ex} (he : ∀ l b, Nz (ex l b)) {pt : Rd Pt} (hp : ∀ l b, Nz (pt l b)) (l : List Tk) (b : Bool) : Nz (matchS z ex pt l b) := by
  unfold matchS
  try dsimp only
  repeat' (first | exact nz_ok | exact nz_want' | exact nz_err (by decide) | refine nz_ite ?_ ?_ | refine nz_bndE (by first | exact nz_wholeE _ | exact nz_wholeP _) (fun _ => ?_) | refine nz_bnd (by first | exact nz_take _ _ | exact nz_skip _ _ _ | exact nz_want _ _ _ | exact nz_kind _ _ _ | exact nz_low _ _ | exact nz_within _ _ _ _ | exact nz_number _ _ | exact nz_behind he _ _ _ | exact nz_lis (nz_arm he hp) _ _ _ _) (fun _ _ _ => ?_) | (dsimp only))
theorem nz_named {ex : Rd Ex} (he : ∀ l b, Nz (ex l b)) (l : List Tk) (b : Bool) : Nz (namedS z ex l b) := by
  unfold namedS
  try dsimp only
  repeat' (first | exact nz_ok | exact nz_want' | exact nz_err (by decide) | refine nz_ite ?_ ?_ | refine nz_bndE (by first | exact nz_wholeE _ | exact nz_wholeP _) (fun _ => ?_) | refine nz_bnd (by first | exact nz_take _ _ | exact nz_skip _ _ _ | exact nz_want _ _ _ | exact nz_kind _ _ _ | exact nz_low _ _ | exact nz_within _ _ _ _ | exact nz_number _ _ | exact nz_inside he _ _ _ _) (fun _ _ _ => ?_) | (dsimp only))
theorem nz_sev {ex : Rd Ex} (he : ∀ l b, Nz (ex l b)) (l : List Tk) (b : Bool) : Nz (sevS z ex l b) := by
  unfold sevS
  try dsimp only
  repeat' (first | exact nz_ok | exact nz_want' | exact nz_err (by decide) | refine nz_ite ?_ ?_ | refine nz_bndE (by first | exact nz_wholeE _ | exact nz_wholeP _) (fun _ => ?_) | refine nz_bnd (by first | exact nz_take _ _ | exact nz_skip _ _ _ | exact nz_want _ _ _ | exact nz_kind _ _ _ | exact nz_low _ _ | exact nz_within _ _ _ _ | exact nz_number _ _ | exact nz_inside he _ _ _ _) (fun _ _ _ => ?_) | (dsimp only))
theorem nz_atom {ex : Rd Ex} (he : ∀ l b, Nz (ex l b)) (l : List Tk) (b : Bool) : Nz (atomS z ex l b) := by
  unfold atomS
  try dsimp only
  repeat' (first | exact nz_ok | exact nz_want' | exact nz_err (by decide) | refine nz_ite ?_ ?_ | refine nz_bndE (by first | exact nz_wholeE _ | exact nz_wholeP _) (fun _ => ?_) | refine nz_bnd (by first | exact nz_take _ _ | exact nz_skip _ _ _ | exact nz_want _ _ _ | exact nz_kind _ _ _ | exact nz_low _ _ | exact nz_within _ _ _ _ | exact nz_number _ _ | exact nz_named he _ _ | exact nz_opt he _ _ | exact nz_sev he _ _) (fun _ _ _ => ?_) | (dsimp only))
theorem nz_op {p : Rd Ex} (hp : ∀ l b, Nz (p l b)) (op : Int) (left : Ex) (l : List Tk) (b : Bool) : Nz (opS z p op left l b) := nz_bnd (nz_take _ _) (fun _ _ _ => nz_bnd (hp _ _) (fun _ _ _ => nz_bndE (nz_wholeE _) (fun _ => nz_ok)))
theorem nz_ch {p : Rd Ex} (hp : ∀ l b, Nz (p l b)) (opf : ByteArray → Int × Bool) : ∀ (n : Nat) (e : Ex) (l : List Tk) (b : Bool), Nz (chS z opf p n e l b)
  | 0, e, l, b => nz_ok
  | n + 1, e, l, b => by
    unfold chS
    exact nz_ite nz_ok (nz_bnd (nz_op hp _ _ _ _) (fun v l1 b1 => nz_ch hp opf n v l1 b1))
theorem nz_chain {p : Rd Ex} (hp : ∀ l b, Nz (p l b)) (opf : ByteArray → Int × Bool) (l : List Tk) (b : Bool) : Nz (chainS z opf p l b) := nz_bnd (hp _ _) (fun v l1 b1 => nz_ch hp opf _ v l1 b1)
theorem nz_prod {ex : Rd Ex} (he : ∀ l b, Nz (ex l b)) (l : List Tk) (b : Bool) : Nz (prodS z ex l b) := by
  unfold prodS
  try dsimp only
  repeat' (first | exact nz_ok | exact nz_want' | exact nz_err (by decide) | refine nz_ite ?_ ?_ | refine nz_bndE (by first | exact nz_wholeE _ | exact nz_wholeP _) (fun _ => ?_) | refine nz_bnd (by first | exact nz_take _ _ | exact nz_skip _ _ _ | exact nz_want _ _ _ | exact nz_kind _ _ _ | exact nz_low _ _ | exact nz_within _ _ _ _ | exact nz_number _ _ | exact nz_chain (nz_atom he) _ _ _) (fun _ _ _ => ?_) | (dsimp only))
theorem nz_sum {ex : Rd Ex} (he : ∀ l b, Nz (ex l b)) (l : List Tk) (b : Bool) : Nz (sumS z ex l b) := by
  unfold sumS
  try dsimp only
  repeat' (first | exact nz_ok | exact nz_want' | exact nz_err (by decide) | refine nz_ite ?_ ?_ | refine nz_bndE (by first | exact nz_wholeE _ | exact nz_wholeP _) (fun _ => ?_) | refine nz_bnd (by first | exact nz_take _ _ | exact nz_skip _ _ _ | exact nz_want _ _ _ | exact nz_kind _ _ _ | exact nz_low _ _ | exact nz_within _ _ _ _ | exact nz_number _ _ | exact nz_chain (nz_prod he) _ _ _) (fun _ _ _ => ?_) | (dsimp only))
theorem nz_cmp {ex : Rd Ex} (he : ∀ l b, Nz (ex l b)) (l : List Tk) (b : Bool) : Nz (cmpS z ex l b) := by
  unfold cmpS
  try dsimp only
  repeat' (first | exact nz_ok | exact nz_want' | exact nz_err (by decide) | refine nz_ite ?_ ?_ | refine nz_bndE (by first | exact nz_wholeE _ | exact nz_wholeP _) (fun _ => ?_) | refine nz_bnd (by first | exact nz_take _ _ | exact nz_skip _ _ _ | exact nz_want _ _ _ | exact nz_kind _ _ _ | exact nz_low _ _ | exact nz_within _ _ _ _ | exact nz_number _ _ | exact nz_sum he _ _ | exact nz_op (nz_sum he) _ _ _ _) (fun _ _ _ => ?_) | (dsimp only))
theorem nz_expr {ex : Rd Ex} (he : ∀ l b, Nz (ex l b)) {pt : Rd Pt} (hp : ∀ l b, Nz (pt l b)) (l : List Tk) (b : Bool) : Nz (exprS z ex pt l b) := by
  unfold exprS
  try dsimp only
  repeat' (first | exact nz_ok | exact nz_want' | exact nz_err (by decide) | refine nz_ite ?_ ?_ | refine nz_bndE (by first | exact nz_wholeE _ | exact nz_wholeP _) (fun _ => ?_) | refine nz_bnd (by first | exact nz_take _ _ | exact nz_skip _ _ _ | exact nz_want _ _ _ | exact nz_kind _ _ _ | exact nz_low _ _ | exact nz_within _ _ _ _ | exact nz_number _ _ | exact nz_let he _ _ | exact nz_cond he _ _ | exact nz_match he hp _ _ | exact nz_loop he _ _ | exact nz_cmp he _ _) (fun _ _ _ => ?_) | (dsimp only))
theorem nz_E : ∀ (n : Nat) (l : List Tk) (b : Bool), Nz (pE z n l b)
  | 0, l, b => nz_want'
  | n + 1, l, b => nz_expr (nz_E n) (nz_P n) l b
end
end Go.Proofs.YtjhnmikciejekaaGreat.Deep

namespace Go.Proofs.YtjhnmikciejekaaGreat.Deep
open Go.RowKit
set_option linter.unusedVariables false
def loops16 (id : Nat) : Option (List Nat × List (Nat × Sh)) := match Nat.beq id 9 with | true => some ([2, 3], [(6, .int .i64)]) | false => match Nat.beq id 4 with | true => some ([2, 3], [(5, .int .i64)]) | false => none
def p16 (i1 i2 i3 i4 : Int) (l5 : List (List PV)) (s6 : ByteArray) (l7 l8 : List (List PV)) (i9 i10 i11 i12 : Int) (l13 : List (List PV)) (s14 : ByteArray) (l15 l16 : List (List PV)) (Q : PV → Heap → Prop) : Prop :=
EqN Tryz.prog 29
  (br ((!(((i2 : Int) == i10) && (((i3 : Int) == i11) && true))))
  (Q (.con (.bool false)) [[i1, i2, i3, i4, l5, s6, l7, l8], [i9, i10, i11, i12, l13, s14, l15, l16]])
  (br ((((List.length l7 : Int) : Int) != (List.length l15 : Int)))
  (Q (.con (.bool false)) [[i1, i2, i3, i4, l5, s6, l7, l8], [i9, i10, i11, i12, l13, s14, l15, l16]])
  (br ((((List.length l8 : Int) : Int) != (List.length l16 : Int)))
  (Q (.con (.bool false)) [[i1, i2, i3, i4, l5, s6, l7, l8], [i9, i10, i11, i12, l13, s14, l15, l16]])
  (∃ I17 : Nat → ((Int) × Unit) → Prop, (∃ n, I17 n (0, ())) ∧ ∀ (n18 : Nat) (v19 : (Int) × Unit), I17 n18 v19 →
  (br ((decide ((v19.1 : Int) < (List.length l7 : Int))))
  (∃ i20 : Int, ∃ i21 : Int, ∃ i22 : Int, ∃ i23 : Int, ∃ l24 : List (List PV), ∃ s25 : ByteArray, ∃ l26 : List (List PV), ∃ l27 : List (List PV), IdxN l7 v19.1 [i20, i21, i22, i23, l24, s25, l26, l27]
  (∃ i28 : Int, ∃ i29 : Int, ∃ i30 : Int, ∃ i31 : Int, ∃ l32 : List (List PV), ∃ s33 : ByteArray, ∃ l34 : List (List PV), ∃ l35 : List (List PV), IdxN l15 v19.1 [i28, i29, i30, i31, l32, s33, l34, l35]
  (∃ b36 : Bool, CallN Tryz.prog 16 [(.agg [i20, i21, i22, i23, l24, s25, l26, l27]), (.agg [i28, i29, i30, i31, l32, s33, l34, l35])] [[i1, i2, i3, i4, l5, s6, l7, l8], [i9, i10, i11, i12, l13, s14, l15, l16]] b36
  (br ((!b36))
  (Q (.con (.bool false)) [[i1, i2, i3, i4, l5, s6, l7, l8], [i9, i10, i11, i12, l13, s14, l15, l16]])
  ((@Eq PV (.ptr 0 0) (.ptr 0 0) ∧ @Eq PV (.ptr 1 0) (.ptr 1 0) ∧ True) ∧ @Eq Heap [[i1, i2, i3, i4, l5, s6, l7, l8], [i9, i10, i11, i12, l13, s14, l15, l16]] [[i1, i2, i3, i4, l5, s6, l7, l8], [i9, i10, i11, i12, l13, s14, l15, l16]] ∧ ∃ k37, k37 < n18 ∧ I17 k37 ((IntKind.wrap .i64 (v19.1 + 1)), ()))))))
  (∃ I38 : Nat → ((Int) × Unit) → Prop, (∃ n, I38 n (0, ())) ∧ ∀ (n39 : Nat) (v40 : (Int) × Unit), I38 n39 v40 →
  (br ((decide ((v40.1 : Int) < (List.length l8 : Int))))
  (∃ i41 : Int, ∃ i42 : Int, ∃ i43 : Int, ∃ s44 : ByteArray, ∃ i45 : Int, ∃ l46 : List (List PV), ∃ i47 : Int, ∃ i48 : Int, ∃ i49 : Int, ∃ i50 : Int, ∃ l51 : List (List PV), ∃ s52 : ByteArray, ∃ l53 : List (List PV), ∃ l54 : List (List PV), IdxN l8 v40.1 [i41, i42, i43, s44, i45, l46, i47, i48, i49, i50, l51, s52, l53, l54]
  (∃ i55 : Int, ∃ i56 : Int, ∃ i57 : Int, ∃ s58 : ByteArray, ∃ i59 : Int, ∃ l60 : List (List PV), ∃ i61 : Int, ∃ i62 : Int, ∃ i63 : Int, ∃ i64 : Int, ∃ l65 : List (List PV), ∃ s66 : ByteArray, ∃ l67 : List (List PV), ∃ l68 : List (List PV), IdxN l16 v40.1 [i55, i56, i57, s58, i59, l60, i61, i62, i63, i64, l65, s66, l67, l68]
  (∃ b69 : Bool, CallN Tryz.prog 39 [(.agg [i41, i42, i43, s44, i45, l46]), (.agg [i55, i56, i57, s58, i59, l60])] [[i1, i2, i3, i4, l5, s6, l7, l8], [i9, i10, i11, i12, l13, s14, l15, l16]] b69
  (br ((!b69))
  (Q (.con (.bool false)) [[i1, i2, i3, i4, l5, s6, l7, l8], [i9, i10, i11, i12, l13, s14, l15, l16]])
  (∃ i70 : Int, ∃ i71 : Int, ∃ i72 : Int, ∃ s73 : ByteArray, ∃ i74 : Int, ∃ l75 : List (List PV), ∃ i76 : Int, ∃ i77 : Int, ∃ i78 : Int, ∃ i79 : Int, ∃ l80 : List (List PV), ∃ s81 : ByteArray, ∃ l82 : List (List PV), ∃ l83 : List (List PV), IdxN l8 v40.1 [i70, i71, i72, s73, i74, l75, i76, i77, i78, i79, l80, s81, l82, l83]
  (∃ i84 : Int, ∃ i85 : Int, ∃ i86 : Int, ∃ s87 : ByteArray, ∃ i88 : Int, ∃ l89 : List (List PV), ∃ i90 : Int, ∃ i91 : Int, ∃ i92 : Int, ∃ i93 : Int, ∃ l94 : List (List PV), ∃ s95 : ByteArray, ∃ l96 : List (List PV), ∃ l97 : List (List PV), IdxN l16 v40.1 [i84, i85, i86, s87, i88, l89, i90, i91, i92, i93, l94, s95, l96, l97]
  (∃ b98 : Bool, CallN Tryz.prog 16 [(.agg [i76, i77, i78, i79, l80, s81, l82, l83]), (.agg [i90, i91, i92, i93, l94, s95, l96, l97])] [[i1, i2, i3, i4, l5, s6, l7, l8], [i9, i10, i11, i12, l13, s14, l15, l16]] b98
  (br ((!b98))
  (Q (.con (.bool false)) [[i1, i2, i3, i4, l5, s6, l7, l8], [i9, i10, i11, i12, l13, s14, l15, l16]])
  ((@Eq PV (.ptr 0 0) (.ptr 0 0) ∧ @Eq PV (.ptr 1 0) (.ptr 1 0) ∧ True) ∧ @Eq Heap [[i1, i2, i3, i4, l5, s6, l7, l8], [i9, i10, i11, i12, l13, s14, l15, l16]] [[i1, i2, i3, i4, l5, s6, l7, l8], [i9, i10, i11, i12, l13, s14, l15, l16]] ∧ ∃ k99, k99 < n39 ∧ I38 k99 ((IntKind.wrap .i64 (v40.1 + 1)), ()))))))))))
  (Q (.con (.bool true)) [[i1, i2, i3, i4, l5, s6, l7, l8], [i9, i10, i11, i12, l13, s14, l15, l16]]))))))))
theorem a16 (i1 i2 i3 i4 : Int) (l5 : List (List PV)) (s6 : ByteArray) (l7 l8 : List (List PV)) (i9 i10 i11 i12 : Int) (l13 : List (List PV)) (s14 : ByteArray) (l15 l16 : List (List PV)) (Q : PV → Heap → Prop) (h : p16 i1 i2 i3 i4 l5 s6 l7 l8 i9 i10 i11 i12 l13 s14 l15 l16 Q) : ACalls Tryz.prog 16 [(.agg [i1, i2, i3, i4, l5, s6, l7, l8]), (.agg [i9, i10, i11, i12, l13, s14, l15, l16])] [] Q := by
  have hb : Option.some (bodyOf Tryz.f16) = Tryz.f16.body := by kernel_rfl
  exact acalls_eq (S := S) (L := loops16) mixed tok Tryz.func16 hb.symm (by kernel_rfl) h
def loops15 (id : Nat) : Option (List Nat × List (Nat × Sh)) := match Nat.beq id 9 with | true => some ([2, 3], [(6, .int .i64)]) | false => match Nat.beq id 4 with | true => some ([2, 3], [(5, .int .i64)]) | false => none
def p15 (i1 i2 i3 i4 : Int) (l5 : List (List PV)) (s6 : ByteArray) (l7 l8 : List (List PV)) (i9 i10 i11 i12 : Int) (l13 : List (List PV)) (s14 : ByteArray) (l15 l16 : List (List PV)) (Q : PV → Heap → Prop) : Prop :=
br (((i1 : Int) != i9))
  (Q (.con (.bool false)) [[i1, i2, i3, i4, l5, s6, l7, l8], [i9, i10, i11, i12, l13, s14, l15, l16]])
  (br (((i4 : Int) != i12))
  (Q (.con (.bool false)) [[i1, i2, i3, i4, l5, s6, l7, l8], [i9, i10, i11, i12, l13, s14, l15, l16]])
  (∃ y17 : List UInt8, BytesN Tryz.prog 30 9 l5 y17
  (∃ y18 : List UInt8, BytesN Tryz.prog 30 9 l13 y18
  (br ((!(ByteArray.toList ⟨List.toArray y17⟩ == ByteArray.toList ⟨List.toArray y18⟩)))
  (Q (.con (.bool false)) [[i1, i2, i3, i4, l5, s6, l7, l8], [i9, i10, i11, i12, l13, s14, l15, l16]])
  (br ((!(ByteArray.toList s6 == ByteArray.toList s14)))
  (Q (.con (.bool false)) [[i1, i2, i3, i4, l5, s6, l7, l8], [i9, i10, i11, i12, l13, s14, l15, l16]])
  (br ((((List.length l7 : Int) : Int) != (List.length l15 : Int)))
  (Q (.con (.bool false)) [[i1, i2, i3, i4, l5, s6, l7, l8], [i9, i10, i11, i12, l13, s14, l15, l16]])
  (br ((((List.length l8 : Int) : Int) != (List.length l16 : Int)))
  (Q (.con (.bool false)) [[i1, i2, i3, i4, l5, s6, l7, l8], [i9, i10, i11, i12, l13, s14, l15, l16]])
  (∃ I19 : Nat → ((Int) × Unit) → Prop, (∃ n, I19 n (0, ())) ∧ ∀ (n20 : Nat) (v21 : (Int) × Unit), I19 n20 v21 →
  (br ((decide ((v21.1 : Int) < (List.length l7 : Int))))
  (∃ i22 : Int, ∃ i23 : Int, ∃ i24 : Int, ∃ i25 : Int, ∃ l26 : List (List PV), ∃ s27 : ByteArray, ∃ l28 : List (List PV), ∃ l29 : List (List PV), IdxN l7 v21.1 [i22, i23, i24, i25, l26, s27, l28, l29]
  (∃ i30 : Int, ∃ i31 : Int, ∃ i32 : Int, ∃ i33 : Int, ∃ l34 : List (List PV), ∃ s35 : ByteArray, ∃ l36 : List (List PV), ∃ l37 : List (List PV), IdxN l15 v21.1 [i30, i31, i32, i33, l34, s35, l36, l37]
  (∃ b38 : Bool, CallN Tryz.prog 15 [(.agg [i22, i23, i24, i25, l26, s27, l28, l29]), (.agg [i30, i31, i32, i33, l34, s35, l36, l37])] [[i1, i2, i3, i4, l5, s6, l7, l8], [i9, i10, i11, i12, l13, s14, l15, l16]] b38
  (br ((!b38))
  (Q (.con (.bool false)) [[i1, i2, i3, i4, l5, s6, l7, l8], [i9, i10, i11, i12, l13, s14, l15, l16]])
  ((@Eq PV (.ptr 0 0) (.ptr 0 0) ∧ @Eq PV (.ptr 1 0) (.ptr 1 0) ∧ True) ∧ @Eq Heap [[i1, i2, i3, i4, l5, s6, l7, l8], [i9, i10, i11, i12, l13, s14, l15, l16]] [[i1, i2, i3, i4, l5, s6, l7, l8], [i9, i10, i11, i12, l13, s14, l15, l16]] ∧ ∃ k39, k39 < n20 ∧ I19 k39 ((IntKind.wrap .i64 (v21.1 + 1)), ()))))))
  (∃ I40 : Nat → ((Int) × Unit) → Prop, (∃ n, I40 n (0, ())) ∧ ∀ (n41 : Nat) (v42 : (Int) × Unit), I40 n41 v42 →
  (br ((decide ((v42.1 : Int) < (List.length l8 : Int))))
  (∃ i43 : Int, ∃ i44 : Int, ∃ i45 : Int, ∃ s46 : ByteArray, ∃ i47 : Int, ∃ l48 : List (List PV), ∃ i49 : Int, ∃ i50 : Int, ∃ i51 : Int, ∃ i52 : Int, ∃ l53 : List (List PV), ∃ s54 : ByteArray, ∃ l55 : List (List PV), ∃ l56 : List (List PV), IdxN l8 v42.1 [i43, i44, i45, s46, i47, l48, i49, i50, i51, i52, l53, s54, l55, l56]
  (∃ i57 : Int, ∃ i58 : Int, ∃ i59 : Int, ∃ s60 : ByteArray, ∃ i61 : Int, ∃ l62 : List (List PV), ∃ i63 : Int, ∃ i64 : Int, ∃ i65 : Int, ∃ i66 : Int, ∃ l67 : List (List PV), ∃ s68 : ByteArray, ∃ l69 : List (List PV), ∃ l70 : List (List PV), IdxN l16 v42.1 [i57, i58, i59, s60, i61, l62, i63, i64, i65, i66, l67, s68, l69, l70]
  (∃ b71 : Bool, CallN Tryz.prog 38 [(.agg [i43, i44, i45, s46, i47, l48]), (.agg [i57, i58, i59, s60, i61, l62])] [[i1, i2, i3, i4, l5, s6, l7, l8], [i9, i10, i11, i12, l13, s14, l15, l16]] b71
  (br ((!b71))
  (Q (.con (.bool false)) [[i1, i2, i3, i4, l5, s6, l7, l8], [i9, i10, i11, i12, l13, s14, l15, l16]])
  (∃ i72 : Int, ∃ i73 : Int, ∃ i74 : Int, ∃ s75 : ByteArray, ∃ i76 : Int, ∃ l77 : List (List PV), ∃ i78 : Int, ∃ i79 : Int, ∃ i80 : Int, ∃ i81 : Int, ∃ l82 : List (List PV), ∃ s83 : ByteArray, ∃ l84 : List (List PV), ∃ l85 : List (List PV), IdxN l8 v42.1 [i72, i73, i74, s75, i76, l77, i78, i79, i80, i81, l82, s83, l84, l85]
  (∃ i86 : Int, ∃ i87 : Int, ∃ i88 : Int, ∃ s89 : ByteArray, ∃ i90 : Int, ∃ l91 : List (List PV), ∃ i92 : Int, ∃ i93 : Int, ∃ i94 : Int, ∃ i95 : Int, ∃ l96 : List (List PV), ∃ s97 : ByteArray, ∃ l98 : List (List PV), ∃ l99 : List (List PV), IdxN l16 v42.1 [i86, i87, i88, s89, i90, l91, i92, i93, i94, i95, l96, s97, l98, l99]
  (∃ b100 : Bool, CallN Tryz.prog 15 [(.agg [i78, i79, i80, i81, l82, s83, l84, l85]), (.agg [i92, i93, i94, i95, l96, s97, l98, l99])] [[i1, i2, i3, i4, l5, s6, l7, l8], [i9, i10, i11, i12, l13, s14, l15, l16]] b100
  (br ((!b100))
  (Q (.con (.bool false)) [[i1, i2, i3, i4, l5, s6, l7, l8], [i9, i10, i11, i12, l13, s14, l15, l16]])
  ((@Eq PV (.ptr 0 0) (.ptr 0 0) ∧ @Eq PV (.ptr 1 0) (.ptr 1 0) ∧ True) ∧ @Eq Heap [[i1, i2, i3, i4, l5, s6, l7, l8], [i9, i10, i11, i12, l13, s14, l15, l16]] [[i1, i2, i3, i4, l5, s6, l7, l8], [i9, i10, i11, i12, l13, s14, l15, l16]] ∧ ∃ k101, k101 < n41 ∧ I40 k101 ((IntKind.wrap .i64 (v42.1 + 1)), ()))))))))))
  (Q (.con (.bool true)) [[i1, i2, i3, i4, l5, s6, l7, l8], [i9, i10, i11, i12, l13, s14, l15, l16]]))))))))))))
theorem a15 (i1 i2 i3 i4 : Int) (l5 : List (List PV)) (s6 : ByteArray) (l7 l8 : List (List PV)) (i9 i10 i11 i12 : Int) (l13 : List (List PV)) (s14 : ByteArray) (l15 l16 : List (List PV)) (Q : PV → Heap → Prop) (h : p15 i1 i2 i3 i4 l5 s6 l7 l8 i9 i10 i11 i12 l13 s14 l15 l16 Q) : ACalls Tryz.prog 15 [(.agg [i1, i2, i3, i4, l5, s6, l7, l8]), (.agg [i9, i10, i11, i12, l13, s14, l15, l16])] [] Q := by
  have hb : Option.some (bodyOf Tryz.f15) = Tryz.f15.body := by kernel_rfl
  exact acalls_eq (S := S) (L := loops15) mixed tok Tryz.func15 hb.symm (by kernel_rfl) h
def loops38 (id : Nat) : Option (List Nat × List (Nat × Sh)) := match Nat.beq id 4 with | true => some ([2, 3], [(5, .int .i64)]) | false => none
def p38 (i1 i2 i3 : Int) (s4 : ByteArray) (i5 : Int) (l6 : List (List PV)) (i7 i8 i9 : Int) (s10 : ByteArray) (i11 : Int) (l12 : List (List PV)) (Q : PV → Heap → Prop) : Prop :=
br (((i1 : Int) != i7))
  (Q (.con (.bool false)) [[i1, i2, i3, s4, i5, l6], [i7, i8, i9, s10, i11, l12]])
  (br ((!(ByteArray.toList s4 == ByteArray.toList s10)))
  (Q (.con (.bool false)) [[i1, i2, i3, s4, i5, l6], [i7, i8, i9, s10, i11, l12]])
  (br (((i5 : Int) != i11))
  (Q (.con (.bool false)) [[i1, i2, i3, s4, i5, l6], [i7, i8, i9, s10, i11, l12]])
  (br ((((List.length l6 : Int) : Int) != (List.length l12 : Int)))
  (Q (.con (.bool false)) [[i1, i2, i3, s4, i5, l6], [i7, i8, i9, s10, i11, l12]])
  (∃ I13 : Nat → ((Int) × Unit) → Prop, (∃ n, I13 n (0, ())) ∧ ∀ (n14 : Nat) (v15 : (Int) × Unit), I13 n14 v15 →
  (br ((decide ((v15.1 : Int) < (List.length l6 : Int))))
  (∃ i16 : Int, ∃ i17 : Int, ∃ i18 : Int, ∃ s19 : ByteArray, ∃ i20 : Int, ∃ l21 : List (List PV), IdxN l6 v15.1 [i16, i17, i18, s19, i20, l21]
  (∃ i22 : Int, ∃ i23 : Int, ∃ i24 : Int, ∃ s25 : ByteArray, ∃ i26 : Int, ∃ l27 : List (List PV), IdxN l12 v15.1 [i22, i23, i24, s25, i26, l27]
  (∃ b28 : Bool, CallN Tryz.prog 38 [(.agg [i16, i17, i18, s19, i20, l21]), (.agg [i22, i23, i24, s25, i26, l27])] [[i1, i2, i3, s4, i5, l6], [i7, i8, i9, s10, i11, l12]] b28
  (br ((!b28))
  (Q (.con (.bool false)) [[i1, i2, i3, s4, i5, l6], [i7, i8, i9, s10, i11, l12]])
  ((@Eq PV (.ptr 0 0) (.ptr 0 0) ∧ @Eq PV (.ptr 1 0) (.ptr 1 0) ∧ True) ∧ @Eq Heap [[i1, i2, i3, s4, i5, l6], [i7, i8, i9, s10, i11, l12]] [[i1, i2, i3, s4, i5, l6], [i7, i8, i9, s10, i11, l12]] ∧ ∃ k29, k29 < n14 ∧ I13 k29 ((IntKind.wrap .i64 (v15.1 + 1)), ()))))))
  (Q (.con (.bool true)) [[i1, i2, i3, s4, i5, l6], [i7, i8, i9, s10, i11, l12]]))))))
theorem a38 (i1 i2 i3 : Int) (s4 : ByteArray) (i5 : Int) (l6 : List (List PV)) (i7 i8 i9 : Int) (s10 : ByteArray) (i11 : Int) (l12 : List (List PV)) (Q : PV → Heap → Prop) (h : p38 i1 i2 i3 s4 i5 l6 i7 i8 i9 s10 i11 l12 Q) : ACalls Tryz.prog 38 [(.agg [i1, i2, i3, s4, i5, l6]), (.agg [i7, i8, i9, s10, i11, l12])] [] Q := by
  have hb : Option.some (bodyOf Tryz.f38) = Tryz.f38.body := by kernel_rfl
  exact acalls_eq (S := S) (L := loops38) mixed tok Tryz.func38 hb.symm (by kernel_rfl) h
end Go.Proofs.YtjhnmikciejekaaGreat.Deep

namespace Go.Proofs.YtjhnmikciejekaaGreat.Deep
open Go.RowKit
set_option linter.unusedVariables false
set_option linter.unusedSimpArgs false
theorem gdPs_mem {ps : List Pt} (h : gdPs ps) : ∀ t ∈ ps, gdP t := fun t ht => by
  obtain ⟨i, hi, rfl⟩ := List.getElem_of_mem ht; exact gdPs_at ps h i hi
theorem gdEs_mem {ps : List Ex} (h : gdEs ps) : ∀ t ∈ ps, gdE t := fun t ht => by
  obtain ⟨i, hi, rfl⟩ := List.getElem_of_mem ht; exact gdEs_at ps h i hi
theorem rsame_pt (t : Pt) : gdP t → ∀ u : Pt, PCalls Tryz.prog 38 [.agg (ptP t), .agg (ptP u)] (fun r => r = .con (.bool (sameP t u))) := by
  induction t using Pt.indM with
  | h k li co n m ks ih =>
  intro hs u
  obtain ⟨k', li', co', n', m', ks', rfl⟩ := pt_mk u
  unfold gdP at hs
  have H : ∀ a ∈ ks, ∀ b ∈ ks', PCalls Tryz.prog 38 [.agg (ptP a), .agg (ptP b)] (fun r => r = .con (.bool (sameP a b))) := fun a ha b _ => ih a ha (gdPs_mem hs.2 a ha) b
  have hsz := hs.1
  refine a38 _ _ _ _ _ _ _ _ _ _ _ _ _ ?_
  unfold p38 sameP
  rw [bne_int, beq_str, bne_int, ptPs_mp, ptPs_mp, List.length_map, List.length_map, len_ne, samePs_l]
  refine br_i (fun h1 => ⟨by rw [le_not h1]; rfl, rfl⟩) (fun h1 => ?_)
  refine br_i (fun h2 => ⟨by rw [le_not h2]; simp, rfl⟩) (fun h2 => ?_)
  refine br_i (fun h4 => ⟨by rw [le_not h4]; simp, rfl⟩) (fun h4 => ?_)
  refine br_i (fun h3 => ⟨by rw [alikeL_len sameP ks ks' (by simpa using h3)]; simp, rfl⟩) (fun h3 => ?_)
  have hl : ks.length = ks'.length := by simpa using h3
  refine ⟨fun c v => ∃ j : Nat, j ≤ (ks).length ∧ c = (ks).length - j ∧ v.1 = (j : Int) ∧ alikeL sameP ((ks).take j) ((ks').take j) = true, ⟨_, 0, Nat.zero_le _, rfl, rfl, by simp [alikeL]⟩, ?_⟩
  rintro c1 ⟨i1, u1⟩ ⟨j1, hj1, rfl, hi1, ha1⟩
  dsimp only at hi1 ha1 ⊢
  subst hi1
  refine br_i (fun hlt => ?_) (fun hge1 => ?_)
  · have hlt : j1 < (ks).length := by simpa using hlt
    have hlt' : j1 < (ks').length := by omega
    have hsn := alikeL_snoc sameP (ks) (ks') j1 hlt hlt'
    have hno := alikeL_no sameP (ks) (ks') j1 hlt hlt'
    have hc := H (ks)[j1] (List.getElem_mem hlt) (ks')[j1] (List.getElem_mem hlt')
    obtain ⟨x0, x1, x2, x3, x4, x5, ex⟩ := cells_Pat (ks)[j1]
    obtain ⟨y0, y1, y2, y3, y4, y5, ey⟩ := cells_Pat (ks')[j1]
    obtain ⟨B, e⟩ : ∃ x, sameP (ks)[j1] (ks')[j1] = x := ⟨_, rfl⟩
    rw [e] at hc hsn hno
    rw [ex, ey] at hc
    refine ⟨_, _, _, _, _, _, ⟨by omega, by rw [Int.toNat_natCast, map_get ptP (ks) j1 hlt, ex], ?_⟩⟩
    refine ⟨_, _, _, _, _, _, ⟨by omega, by rw [Int.toNat_natCast, map_get ptP (ks') j1 hlt', ey], ?_⟩⟩
    refine ⟨_, call_p (enters_of Tryz.func38 (by kernel_rfl) rfl) hc rfl ?_⟩
    refine br_i (fun h => ⟨by rw [hno (le_not h)]; simp, rfl⟩) (fun h => ?_)
    refine ⟨⟨rfl, rfl, trivial⟩, rfl, (ks).length - (j1 + 1), by omega, j1 + 1, by omega, rfl, by rw [wrap_id (by omega) (by omega)]; simp, ?_⟩
    rw [hsn, ha1, le_yes h]; rfl
  have hge1 : ¬ j1 < (ks).length := by simpa using hge1
  obtain rfl : j1 = (ks).length := by omega
  rw [List.take_length, hl, List.take_length] at ha1
  exact ⟨by rw [le_yes h1, le_yes h2, le_yes h4, ha1]; rfl, rfl⟩
theorem rsame_ex (t : Ex) : gdE t → ∀ u : Ex, gdE u → PCalls Tryz.prog 15 [.agg (exP t), .agg (exP u)] (fun r => r = .con (.bool (sameE t u))) := by
  induction t using Ex.indM with
  | h k li co m b n ks ps bs ihk ihb =>
  intro hs u hwu
  obtain ⟨k', li', co', m', b', n', ks', ps', bs', rfl⟩ := ex_mk u
  unfold gdE at hs hwu
  obtain ⟨hsk, hsbs, hpl, hsks, hsps, hsbb⟩ := hs
  obtain ⟨_, _, hpl', hwk', _, hwb'⟩ := hwu
  have H : ∀ a ∈ ks, ∀ b ∈ ks', PCalls Tryz.prog 15 [.agg (exP a), .agg (exP b)] (fun r => r = .con (.bool (sameE a b))) := fun a ha c hc => ihk a ha (gdEs_mem hsks a ha) c (gdEs_mem hwk' c hc)
  have HA : ∀ a ∈ ps.zip bs, ∀ c ∈ ps'.zip bs', PCalls Tryz.prog 38 [.agg (ptP a.1), .agg (ptP c.1)] (fun r => r = .con (.bool (sameP a.1 c.1))) ∧ PCalls Tryz.prog 15 [.agg (exP a.2), .agg (exP c.2)] (fun r => r = .con (.bool (sameE a.2 c.2))) := fun a ha c hc => by
    obtain ⟨p, e⟩ := a
    obtain ⟨p', e'⟩ := c
    obtain ⟨q1, q2⟩ := List.of_mem_zip ha
    obtain ⟨q3, q4⟩ := List.of_mem_zip hc
    exact ⟨rsame_pt p (gdPs_mem hsps p q1) p', ihb e q2 (gdEs_mem hsbb e q2) e' (gdEs_mem hwb' e' q4)⟩
  have hz : (ps.zip bs).length = bs.length := by rw [List.length_zip]; omega
  have hz' : (ps'.zip bs').length = bs'.length := by rw [List.length_zip]; omega
  refine a15 _ _ _ _ _ _ _ _ _ _ _ _ _ _ _ _ _ ?_
  unfold p15 sameE
  rw [bne_int, bne_int, beq_str, exPs_mp, exPs_mp, arPs_mp, arPs_mp, List.length_map, List.length_map, List.length_map, List.length_map, len_ne, len_ne, sameEs_l, ← arms_same ps ps' bs bs' hpl hpl']
  refine br_i (fun h1 => ⟨by rw [le_not h1]; rfl, rfl⟩) (fun h1 => ?_)
  refine br_i (fun h2 => ⟨by rw [le_not h2]; simp, rfl⟩) (fun h2 => ?_)
  refine ⟨b, ⟨⟨5, by kernel_rfl, by kernel_rfl⟩, by kernel_rfl, rfl, ?_⟩⟩
  refine ⟨b', ⟨⟨5, by kernel_rfl, by kernel_rfl⟩, by kernel_rfl, rfl, ?_⟩⟩
  rw [beq_by]
  refine br_i (fun h3 => ⟨by rw [le_not h3]; simp, rfl⟩) (fun h3 => ?_)
  refine br_i (fun h4 => ⟨by rw [le_not h4]; simp, rfl⟩) (fun h4 => ?_)
  refine br_i (fun h5 => ⟨by rw [alikeL_len sameE ks ks' (by simpa using h5)]; simp, rfl⟩) (fun h5 => ?_)
  have hl : ks.length = ks'.length := by simpa using h5
  refine br_i (fun h6 => ⟨by rw [alikeL_len _ (ps.zip bs) (ps'.zip bs') (by simpa using h6)]; simp, rfl⟩) (fun h6 => ?_)
  have hl2 : (ps.zip bs).length = (ps'.zip bs').length := by simpa using h6
  refine ⟨fun c v => ∃ j : Nat, j ≤ (ks).length ∧ c = (ks).length - j ∧ v.1 = (j : Int) ∧ alikeL sameE ((ks).take j) ((ks').take j) = true, ⟨_, 0, Nat.zero_le _, rfl, rfl, by simp [alikeL]⟩, ?_⟩
  rintro c1 ⟨i1, u1⟩ ⟨j1, hj1, rfl, hi1, ha1⟩
  dsimp only at hi1 ha1 ⊢
  subst hi1
  refine br_i (fun hlt => ?_) (fun hge1 => ?_)
  · have hlt : j1 < (ks).length := by simpa using hlt
    have hlt' : j1 < (ks').length := by omega
    have hsn := alikeL_snoc sameE (ks) (ks') j1 hlt hlt'
    have hno := alikeL_no sameE (ks) (ks') j1 hlt hlt'
    have hc := H (ks)[j1] (List.getElem_mem hlt) (ks')[j1] (List.getElem_mem hlt')
    obtain ⟨x0, x1, x2, x3, x4, x5, x6, x7, ex⟩ := cells_Expr (ks)[j1]
    obtain ⟨y0, y1, y2, y3, y4, y5, y6, y7, ey⟩ := cells_Expr (ks')[j1]
    obtain ⟨B, e⟩ : ∃ x, sameE (ks)[j1] (ks')[j1] = x := ⟨_, rfl⟩
    rw [e] at hc hsn hno
    rw [ex, ey] at hc
    refine ⟨_, _, _, _, _, _, _, _, ⟨by omega, by rw [Int.toNat_natCast, map_get exP (ks) j1 hlt, ex], ?_⟩⟩
    refine ⟨_, _, _, _, _, _, _, _, ⟨by omega, by rw [Int.toNat_natCast, map_get exP (ks') j1 hlt', ey], ?_⟩⟩
    refine ⟨_, call_p (enters_of Tryz.func15 (by kernel_rfl) rfl) hc rfl ?_⟩
    refine br_i (fun h => ⟨by rw [hno (le_not h)]; simp, rfl⟩) (fun h => ?_)
    refine ⟨⟨rfl, rfl, trivial⟩, rfl, (ks).length - (j1 + 1), by omega, j1 + 1, by omega, rfl, by rw [wrap_id (by omega) (by omega)]; simp, ?_⟩
    rw [hsn, ha1, le_yes h]; rfl
  have hge1 : ¬ j1 < (ks).length := by simpa using hge1
  obtain rfl : j1 = (ks).length := by omega
  rw [List.take_length, hl, List.take_length] at ha1
  refine ⟨fun c v => ∃ j : Nat, j ≤ (ps.zip bs).length ∧ c = (ps.zip bs).length - j ∧ v.1 = (j : Int) ∧ alikeL (fun a c : Pt × Ex => sameP a.1 c.1 && sameE a.2 c.2) ((ps.zip bs).take j) ((ps'.zip bs').take j) = true, ⟨_, 0, Nat.zero_le _, rfl, rfl, by simp [alikeL]⟩, ?_⟩
  rintro c2 ⟨i2, u2⟩ ⟨j2, hj2, rfl, hi2, ha2⟩
  dsimp only at hi2 ha2 ⊢
  subst hi2
  refine br_i (fun hlt => ?_) (fun hge2 => ?_)
  · have hlt : j2 < (ps.zip bs).length := by simpa using hlt
    have hlt' : j2 < (ps'.zip bs').length := by omega
    have hsn := alikeL_snoc (fun a c : Pt × Ex => sameP a.1 c.1 && sameE a.2 c.2) (ps.zip bs) (ps'.zip bs') j2 hlt hlt'
    have hno := alikeL_no (fun a c : Pt × Ex => sameP a.1 c.1 && sameE a.2 c.2) (ps.zip bs) (ps'.zip bs') j2 hlt hlt'
    obtain ⟨hc1, hc2⟩ := HA (ps.zip bs)[j2] (List.getElem_mem hlt) (ps'.zip bs')[j2] (List.getElem_mem hlt')
    have hx : ((ps.zip bs).map amP)[j2]? = some (amP (ps.zip bs)[j2]) := map_get amP _ j2 hlt
    have hy : ((ps'.zip bs').map amP)[j2]? = some (amP (ps'.zip bs')[j2]) := map_get amP _ j2 hlt'
    obtain ⟨B1, e1⟩ : ∃ x, sameP (ps.zip bs)[j2].1 (ps'.zip bs')[j2].1 = x := ⟨_, rfl⟩
    obtain ⟨B2, e2⟩ : ∃ x, sameE (ps.zip bs)[j2].2 (ps'.zip bs')[j2].2 = x := ⟨_, rfl⟩
    rw [e1] at hc1 hsn hno
    rw [e2] at hc2 hsn hno
    clear e1 e2
    generalize (ps.zip bs)[j2] = A at hc1 hc2 hx
    generalize (ps'.zip bs')[j2] = C at hc1 hc2 hy
    obtain ⟨⟨xk, xl, xc, xn, xm, xks⟩, ⟨xk2, xl2, xc2, xm2, xb2, xn2, xks2, xps2, xbs2⟩⟩ := A
    obtain ⟨⟨yk, yl, yc, yn, ym, yks⟩, ⟨yk2, yl2, yc2, ym2, yb2, yn2, yks2, yps2, ybs2⟩⟩ := C
    refine ⟨_, _, _, _, _, _, _, _, _, _, _, _, _, _, ⟨by omega, by rw [Int.toNat_natCast]; exact hx, ?_⟩⟩
    refine ⟨_, _, _, _, _, _, _, _, _, _, _, _, _, _, ⟨by omega, by rw [Int.toNat_natCast]; exact hy, ?_⟩⟩
    refine ⟨_, call_p (enters_of Tryz.func38 (by kernel_rfl) rfl) hc1 rfl ?_⟩
    refine br_i (fun h => ⟨by rw [hno (by rw [le_not h]; rfl)]; simp, rfl⟩) (fun h => ?_)
    refine ⟨_, _, _, _, _, _, _, _, _, _, _, _, _, _, ⟨by omega, by rw [Int.toNat_natCast]; exact hx, ?_⟩⟩
    refine ⟨_, _, _, _, _, _, _, _, _, _, _, _, _, _, ⟨by omega, by rw [Int.toNat_natCast]; exact hy, ?_⟩⟩
    refine ⟨_, call_p (enters_of Tryz.func15 (by kernel_rfl) rfl) hc2 rfl ?_⟩
    refine br_i (fun h7 => ⟨by rw [hno (by rw [le_not h7]; simp)]; simp, rfl⟩) (fun h7 => ?_)
    refine ⟨⟨rfl, rfl, trivial⟩, rfl, (ps.zip bs).length - (j2 + 1), by omega, j2 + 1, by omega, rfl, by rw [wrap_id (by omega) (by omega)]; simp, ?_⟩
    rw [hsn, ha2, le_yes h, le_yes h7]; rfl
  have hge2 : ¬ j2 < (ps.zip bs).length := by simpa using hge2
  obtain rfl : j2 = (ps.zip bs).length := by omega
  rw [List.take_length, hl2, List.take_length] at ha2
  exact ⟨by rw [le_yes h1, le_yes h2, le_yes h3, le_yes h4, ha1, ha2]; rfl, rfl⟩
end Go.Proofs.YtjhnmikciejekaaGreat.Deep

namespace Go.Proofs.YtjhnmikciejekaaGreat.Deep
open Go.RowKit
set_option linter.unusedVariables false
def loops24 (id : Nat) : Option (List Nat × List (Nat × Sh)) := match Nat.beq id 7 with | true => some ([1], [(3, .int .i64), (5, .int .i64)]) | false => match Nat.beq id 3 with | true => some ([1], [(3, .int .i64), (4, .int .i64)]) | false => none
def p24 (i1 i2 i3 i4 : Int) (l5 : List (List PV)) (s6 : ByteArray) (l7 l8 : List (List PV)) (Q : PV → Heap → Prop) : Prop :=
∃ I9 : Nat → ((Int) × (Int) × Unit) → Prop, (∃ n, I9 n (0, 0, ())) ∧ ∀ (n10 : Nat) (v11 : (Int) × (Int) × Unit), I9 n10 v11 →
  (br ((decide ((v11.2.1 : Int) < (List.length l7 : Int))))
  (∃ i12 : Int, ∃ i13 : Int, ∃ i14 : Int, ∃ i15 : Int, ∃ l16 : List (List PV), ∃ s17 : ByteArray, ∃ l18 : List (List PV), ∃ l19 : List (List PV), IdxN l7 v11.2.1 [i12, i13, i14, i15, l16, s17, l18, l19]
  (∃ i20 : Int, CallN Tryz.prog 24 [(.agg [i12, i13, i14, i15, l16, s17, l18, l19])] [[i1, i2, i3, i4, l5, s6, l7, l8]] i20
  ((@Eq PV (.ptr 0 0) (.ptr 0 0) ∧ True) ∧ @Eq Heap [[i1, i2, i3, i4, l5, s6, l7, l8]] [[i1, i2, i3, i4, l5, s6, l7, l8]] ∧ ∃ k21, k21 < n10 ∧ I9 k21 ((maxI v11.1 i20), (IntKind.wrap .i64 (v11.2.1 + 1)), ()))))
  (∃ I22 : Nat → ((Int) × (Int) × Unit) → Prop, (∃ n, I22 n (v11.1, 0, ())) ∧ ∀ (n23 : Nat) (v24 : (Int) × (Int) × Unit), I22 n23 v24 →
  (br ((decide ((v24.2.1 : Int) < (List.length l8 : Int))))
  (∃ i25 : Int, ∃ i26 : Int, ∃ i27 : Int, ∃ s28 : ByteArray, ∃ i29 : Int, ∃ l30 : List (List PV), ∃ i31 : Int, ∃ i32 : Int, ∃ i33 : Int, ∃ i34 : Int, ∃ l35 : List (List PV), ∃ s36 : ByteArray, ∃ l37 : List (List PV), ∃ l38 : List (List PV), IdxN l8 v24.2.1 [i25, i26, i27, s28, i29, l30, i31, i32, i33, i34, l35, s36, l37, l38]
  (∃ i39 : Int, CallN Tryz.prog 24 [(.agg [i31, i32, i33, i34, l35, s36, l37, l38])] [] i39
  (∃ i40 : Int, ∃ i41 : Int, ∃ i42 : Int, ∃ s43 : ByteArray, ∃ i44 : Int, ∃ l45 : List (List PV), ∃ i46 : Int, ∃ i47 : Int, ∃ i48 : Int, ∃ i49 : Int, ∃ l50 : List (List PV), ∃ s51 : ByteArray, ∃ l52 : List (List PV), ∃ l53 : List (List PV), IdxN l8 v24.2.1 [i40, i41, i42, s43, i44, l45, i46, i47, i48, i49, l50, s51, l52, l53]
  (∃ i54 : Int, CallN Tryz.prog 54 [(.agg [i40, i41, i42, s43, i44, l45])] [] i54
  ((@Eq PV (.ptr 0 0) (.ptr 0 0) ∧ True) ∧ @Eq Heap [[i1, i2, i3, i4, l5, s6, l7, l8]] [[i1, i2, i3, i4, l5, s6, l7, l8]] ∧ ∃ k55, k55 < n23 ∧ I22 k55 ((maxI (maxI v24.1 i39) i54), (IntKind.wrap .i64 (v24.2.1 + 1)), ()))))))
  (Q (IntKind.wrap .i64 (v24.1 + 1)) [[i1, i2, i3, i4, l5, s6, l7, l8]]))))
theorem a24 (i1 i2 i3 i4 : Int) (l5 : List (List PV)) (s6 : ByteArray) (l7 l8 : List (List PV)) (Q : PV → Heap → Prop) (h : p24 i1 i2 i3 i4 l5 s6 l7 l8 Q) : ACalls Tryz.prog 24 [(.agg [i1, i2, i3, i4, l5, s6, l7, l8])] [] Q := by
  have hb : Option.some (bodyOf Tryz.f24) = Tryz.f24.body := by kernel_rfl
  exact acalls_eq (S := S) (L := loops24) mixed tok Tryz.func24 hb.symm (by kernel_rfl) h
def loops54 (id : Nat) : Option (List Nat × List (Nat × Sh)) := match Nat.beq id 3 with | true => some ([1], [(3, .int .i64), (4, .int .i64)]) | false => none
def p54 (i1 i2 i3 : Int) (s4 : ByteArray) (i5 : Int) (l6 : List (List PV)) (Q : PV → Heap → Prop) : Prop :=
∃ I7 : Nat → ((Int) × (Int) × Unit) → Prop, (∃ n, I7 n (0, 0, ())) ∧ ∀ (n8 : Nat) (v9 : (Int) × (Int) × Unit), I7 n8 v9 →
  (br ((decide ((v9.2.1 : Int) < (List.length l6 : Int))))
  (∃ i10 : Int, ∃ i11 : Int, ∃ i12 : Int, ∃ s13 : ByteArray, ∃ i14 : Int, ∃ l15 : List (List PV), IdxN l6 v9.2.1 [i10, i11, i12, s13, i14, l15]
  (∃ i16 : Int, CallN Tryz.prog 54 [(.agg [i10, i11, i12, s13, i14, l15])] [[i1, i2, i3, s4, i5, l6]] i16
  ((@Eq PV (.ptr 0 0) (.ptr 0 0) ∧ True) ∧ @Eq Heap [[i1, i2, i3, s4, i5, l6]] [[i1, i2, i3, s4, i5, l6]] ∧ ∃ k17, k17 < n8 ∧ I7 k17 ((maxI v9.1 i16), (IntKind.wrap .i64 (v9.2.1 + 1)), ()))))
  (Q (IntKind.wrap .i64 (v9.1 + 1)) [[i1, i2, i3, s4, i5, l6]]))
theorem a54 (i1 i2 i3 : Int) (s4 : ByteArray) (i5 : Int) (l6 : List (List PV)) (Q : PV → Heap → Prop) (h : p54 i1 i2 i3 s4 i5 l6 Q) : ACalls Tryz.prog 54 [(.agg [i1, i2, i3, s4, i5, l6])] [] Q := by
  have hb : Option.some (bodyOf Tryz.f54) = Tryz.f54.body := by kernel_rfl
  exact acalls_eq (S := S) (L := loops54) mixed tok Tryz.func54 hb.symm (by kernel_rfl) h
end Go.Proofs.YtjhnmikciejekaaGreat.Deep

namespace Go.Proofs.YtjhnmikciejekaaGreat.Deep
open Go.RowKit
set_option linter.unusedVariables false
set_option linter.unusedSimpArgs false
theorem maxI_swap (a x y : Int) : maxI (maxI a x) y = maxI a (maxI y x) := by
  unfold maxI
  repeat' split
  all_goals omega
theorem maxI_nest {a : Int} (ha : 0 ≤ a) (x D : Int) : maxI a (maxI (maxI 0 x) D) = maxI (maxI a x) D := by
  unfold maxI
  repeat' split
  all_goals omega
theorem maxI_pos {a : Int} (ha : 0 ≤ a) (x : Int) : 0 ≤ maxI a x := by
  unfold maxI; split <;> omega
theorem depAs_max : ∀ (bs : List Ex) (ps : List Pt) (a : Int), 0 ≤ a → depAs a bs ps = maxI a (depAs 0 bs ps)
  | [], ps, a, ha => by
    have : ∀ c, depAs c [] ps = c := fun c => by cases ps <;> rfl
    rw [this, this]; unfold maxI; split <;> omega
  | b :: bs, [], a, ha => by
    show a = maxI a 0
    unfold maxI; split <;> omega
  | b :: bs, p :: ps, a, ha => by
    show depAs (maxI a (maxI (depP p) (depE b))) bs ps = maxI a (depAs (maxI 0 (maxI (depP p) (depE b))) bs ps)
    rw [depAs_max bs ps _ (maxI_pos ha _), depAs_max bs ps (maxI 0 (maxI (depP p) (depE b))) (maxI_pos (Int.le_refl 0) _), maxI_nest ha]
theorem depEs_pos : ∀ (l : List Ex) (a : Int), 0 ≤ a → 0 ≤ depEs a l
  | [], a, h => h
  | t :: ts, a, h => depEs_pos ts _ (maxI_pos h _)
theorem en_deep : Enters Tryz.prog 24 := enters_of Tryz.func24 (by kernel_rfl) rfl
theorem en_deepPat : Enters Tryz.prog 54 := enters_of Tryz.func54 (by kernel_rfl) rfl
theorem deepPat_p (t : Pt) : gdP t → PCalls Tryz.prog 54 [.agg (ptP t)] (fun r => r = .con (.int .i64 (depP t))) := by
  induction t using Pt.ind with
  | h k li co n m ps ih =>
  intro hg
  unfold gdP at hg
  refine a54 _ _ _ _ _ _ _ ?_
  unfold p54
  rw [ptPs_len]
  refine ⟨fun c v => ∃ j : Nat, j ≤ ps.length ∧ c = ps.length - j ∧ v.2.1 = (j : Int) ∧ v.1 = depPs 0 (ps.take j), ⟨_, 0, Nat.zero_le _, rfl, rfl, rfl⟩, ?_⟩
  rintro c ⟨p, i, u⟩ ⟨j, hj, rfl, hi, hp⟩
  dsimp only at hi hp ⊢
  subst hi hp
  refine br_i (fun hlt => ?_) (fun hge => ?_)
  · have hlt : j < ps.length := by simpa using hlt
    have hx := ptPs_get ps j hlt
    have hc := ih j hlt (gdPs_at ps hg.2 j hlt)
    have hd := depPs_take ps 0 j hlt
    obtain ⟨k', li', co', n', m', ps', hp⟩ := pt_mk' ps[j]
    rw [hp] at hx hc hd
    refine ⟨_, _, _, _, _, _, ⟨by omega, by rw [Int.toNat_natCast]; exact hx, ?_⟩⟩
    refine ⟨_, call_p en_deepPat hc rfl ⟨⟨by trivial, trivial⟩, by trivial, ps.length - (j + 1), by omega, j + 1, by omega, rfl, ?_, hd.symm⟩⟩
    rw [wrap_id (by omega) (by omega)]; simp
  · have hge : ¬ j < ps.length := by simpa using hge
    obtain rfl : j = ps.length := by omega
    exact ⟨by rw [List.take_length, depP, Int.add_comm], rfl⟩
theorem deep_p (t : Ex) : gdE t → PCalls Tryz.prog 24 [.agg (exP t)] (fun r => r = .con (.int .i64 (depE t))) := by
  induction t using Ex.ind with
  | h k li co m by_ n ks ps bs ihk ihb =>
  intro hg
  unfold gdE at hg
  obtain ⟨g1, g2, g3, g4, g5, g6⟩ := hg
  refine a24 _ _ _ _ _ _ _ _ _ ?_
  unfold p24
  rw [exPs_len, arPs_len bs ps g3]
  refine ⟨fun c v => ∃ j : Nat, j ≤ ks.length ∧ c = ks.length - j ∧ v.2.1 = (j : Int) ∧ v.1 = depEs 0 (ks.take j), ⟨_, 0, Nat.zero_le _, rfl, rfl, rfl⟩, ?_⟩
  rintro c ⟨p, i, u⟩ ⟨j, hj, rfl, hi, hp⟩
  dsimp only at hi hp ⊢
  subst hi hp
  refine br_i (fun hlt => ?_) (fun hge => ?_)
  · have hlt : j < ks.length := by simpa using hlt
    have hx := exPs_get ks j hlt
    have hc := ihk j hlt (gdEs_at ks g4 j hlt)
    have hd := depEs_take ks 0 j hlt
    obtain ⟨k', li', co', m', b', n', ks', ps', bs', hp⟩ := ex_mk' ks[j]
    rw [hp] at hx hc hd
    refine ⟨_, _, _, _, _, _, _, _, ⟨by omega, by rw [Int.toNat_natCast]; exact hx, ?_⟩⟩
    refine ⟨_, call_p en_deep hc rfl ⟨⟨by trivial, trivial⟩, by trivial, ks.length - (j + 1), by omega, j + 1, by omega, rfl, ?_, hd.symm⟩⟩
    rw [wrap_id (by omega) (by omega)]; simp
  have hge : ¬ j < ks.length := by simpa using hge
  obtain rfl : j = ks.length := by omega
  rw [List.take_length]
  have h0 := depEs_pos ks 0 (Int.le_refl 0)
  obtain ⟨A, hA⟩ : ∃ A, A = depEs 0 ks := ⟨_, rfl⟩
  rw [← hA] at h0 ⊢
  refine ⟨fun c v => ∃ j : Nat, j ≤ bs.length ∧ c = bs.length - j ∧ v.2.1 = (j : Int) ∧ v.1 = depAs A (bs.take j) (ps.take j), ⟨_, 0, Nat.zero_le _, rfl, rfl, rfl⟩, ?_⟩
  rintro c ⟨p, i, u⟩ ⟨j, hj, rfl, hi, hp⟩
  dsimp only at hi hp ⊢
  subst hi hp
  refine br_i (fun hlt => ?_) (fun hge => ?_)
  · have hlt : j < bs.length := by simpa using hlt
    have hlt2 : j < ps.length := by omega
    have hx := arPs_get bs ps j hlt hlt2
    have hc := ihb j hlt (gdEs_at bs g6 j hlt)
    have hcp := deepPat_p ps[j] (gdPs_at ps g5 j hlt2)
    have hd := depAs_take bs ps A j hlt hlt2
    obtain ⟨k', li', co', m', b', n', ks', ps', bs', hp⟩ := ex_mk' bs[j]
    obtain ⟨k2, li2, co2, n2, m2, ps2, hp2⟩ := pt_mk' ps[j]
    rw [hp] at hx hc hd
    rw [hp2] at hx hcp hd
    refine ⟨_, _, _, _, _, _, _, _, _, _, _, _, _, _, ⟨by omega, by rw [Int.toNat_natCast]; exact hx, ?_⟩⟩
    refine ⟨_, call_p en_deep hc rfl ?_⟩
    refine ⟨_, _, _, _, _, _, _, _, _, _, _, _, _, _, ⟨by omega, by rw [Int.toNat_natCast]; exact hx, ?_⟩⟩
    refine ⟨_, call_p en_deepPat hcp rfl ⟨⟨by trivial, trivial⟩, by trivial, bs.length - (j + 1), by omega, j + 1, by omega, rfl, ?_, ?_⟩⟩
    · rw [wrap_id (by omega) (by omega)]; simp
    · rw [hd, maxI_swap]
  · have hge : ¬ j < bs.length := by simpa using hge
    obtain rfl : j = bs.length := by omega
    refine ⟨?_, rfl⟩
    rw [List.take_length, ← g3, List.take_length, depE, depAs_max bs ps A h0, ← hA, Int.add_comm]
end Go.Proofs.YtjhnmikciejekaaGreat.Deep
