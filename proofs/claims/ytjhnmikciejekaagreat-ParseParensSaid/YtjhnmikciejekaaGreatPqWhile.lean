/-
  Texts of one proof, in their order. No condition.
-/
import Derived.Shelf.Abstract
import Derived.Shelf.RegionOpen
import Derived.WalkKit
import Derived.OwnWalkIn
import Derived.TacticsInMore
import Derived.LoopNIn
import Derived.LoopIn
import Derived.Test.YtjhnmikciejekaaGreatPqReader
namespace Go.Proofs.YtjhnmikciejekaaGreat
open Go.ChangeShapes Go.WideShapes Go.ChangeAt Go.RowKit Go.Shelf
attribute [local go_sem] Oper.semAt_some
set_option linter.unusedVariables false
theorem while_any (a : Addr) (g : Nat) (w : World) : Calls Tryz.prog 173 #[.pointer (some a), .func (.func g) #[] #[]] w fun e w' => e = .returned (.func (.func 198) #[] #[.pointer (some ⟨w.heap.size, 0, none⟩), .pointer (some ⟨w.heap.size + 1, 0, none⟩)]) ∧ w' = (w.alloc (.cells #[.pointer (some a)] 183)).alloc (.cells #[.func (.func g) #[] #[]] 109) := by
  go_enter Tryz.func173, Tryz.ntmps173
  go_wp2
  go_ret
  exact ⟨rfl, rfl⟩
def atOf (R : Nat) (W : World) : Nat := match W.cell? ⟨R, 1, none⟩ with | some v => (intOf v).toNat | none => 0
theorem Rd.atOf {R : Nat} {A : Option Addr} {c : Nat} {rs : List Ent} {eL eC : Int} {k : Nat} {W : World} (h : Rd R A c rs eL eC k W) : atOf R W = k := by
  simp [YtjhnmikciejekaaGreat.atOf, h.cell1, intOf]
structure WRd (R : Nat) (A : Option Addr) (c : Nat) (rs : List Ent) (eL eC : Int) (b1 b2 g k : Nat) (W : World) : Prop where
  rd : Rd R A c rs eL eC k W
  box1 : W.heap[b1]? = some (.cells #[.pointer (some ⟨R, 0, none⟩)] 183 (0, 0))
  box2 : W.heap[b2]? = some (.cells #[.func (.func g) #[] #[]] 109 (0, 0))
  ne : b1 ≠ R ∧ b2 ≠ R
section
variable {R : Nat} {A : Option Addr} {c : Nat} {rs : List Ent} {eL eC : Int} {b1 b2 g k : Nat} {W W' : World}
theorem WRd.quiet (h : WRd R A c rs eL eC b1 b2 g k W) (hg : W.grownBy W' none) : WRd R A c rs eL eC b1 b2 g k W' :=
  ⟨h.rd.quiet hg, (hg.block b1 (Array.getElem?_eq_some_iff.1 h.box1).1 (by simp)).trans h.box1, (hg.block b2 (Array.getElem?_eq_some_iff.1 h.box2).1 (by simp)).trans h.box2, h.ne⟩
theorem WRd.on (h : WRd R A c rs eL eC b1 b2 g k W) (hg : W.grownBy W' (some R)) {j : Nat} (hr : Rd R A c rs eL eC j W') : WRd R A c rs eL eC b1 b2 g j W' :=
  ⟨hr, (hg.block b1 (Array.getElem?_eq_some_iff.1 h.box1).1 (by have := h.ne.1; simpa using this)).trans h.box1, (hg.block b2 (Array.getElem?_eq_some_iff.1 h.box2).1 (by have := h.ne.2; simpa using this)).trans h.box2, h.ne⟩
theorem WRd.c1 (h : WRd R A c rs eL eC b1 b2 g k W) : W.cell? ⟨b1, 0, none⟩ = some (.pointer (some ⟨R, 0, none⟩)) := cell_of_row W b1 0 _ 183 (0, 0) h.box1
theorem WRd.c2 (h : WRd R A c rs eL eC b1 b2 g k W) : W.cell? ⟨b2, 0, none⟩ = some (.func (.func g) #[] #[]) := cell_of_row W b2 0 _ 109 (0, 0) h.box2
end
def moreB (rs : List Ent) (p : Int → Bool) (k : Nat) : Bool := decide (k < rs.length) && p (runeAt rs k)
theorem quiet_add {P : Program} {f : FuncId} {args : Array Value} {w : World} {n : Nat} {v : Value}
    (h : Calls P f args (w.drewN n) fun e w' => e = .returned v ∧ ∃ m, w' = (w.drewN n).drewN m) :
    Calls P f args (w.drewN n) fun e w'' => e = .returned v ∧ ∃ m, w'' = w.drewN m :=
  h.mono fun _ _ ⟨he, m, hm⟩ => ⟨he, n + m, by rw [hm, World.drewN_drewN]⟩
theorem quiet_left {P : Program} {f : FuncId} {args : Array Value} {w : World} {n : Nat} {v : Value}
    (h : Calls P f args (w.drewN n) fun e w' => e = .returned v ∧ w.drewN n = w') : Calls P f args (w.drewN n) fun e w'' => e = .returned v ∧ ∃ m, w'' = w.drewN m :=
  h.mono fun _ _ ⟨he, hm⟩ => ⟨he, n, hm.symm⟩
set_option maxHeartbeats 1000000 in
set_option maxRecDepth 100000 in
theorem while_iter (R : Nat) (A : Option Addr) (c : Nat) (rs : List Ent) (eL eC : Int) (b1 b2 g : Nat) (p : Int → Bool) (n : Nat)
    (hp : ∀ r w, Calls Tryz.prog g #[.int .i32 r] w fun e w' => e = .returned (.bool (p r)) ∧ w = w')
    (eg : ∀ args w, (callFunc g args).run Tryz.prog w = .ok (.enter g args) w) :
    CoIter Fence.wide n Tryz.prog 198 #[.pointer (some ⟨b1, 0, none⟩), .pointer (some ⟨b2, 0, none⟩)] R (WRd R A c rs eL eC b1 b2 g) (fun k => .int .i32 (runeAt rs k)) (moreB rs p) := by
  intro l J Jm Jx W k0 hrd hq hs hY h0
  refine callsIn_of_wp Tryz.func198 rfl trivial ?_ rfl
  simp only [Tryz.ntmps198, List.size_toArray, List.length_cons, List.length_nil, Nat.reduceAdd, Nat.reduceSub, Array.replicate_succ, Array.replicate_zero, List.push_toArray, List.append_toArray, List.nil_append, List.cons_append]
  have Hrd := Lib.hid hrd
  have Hq := Lib.hid hq
  have Hs := Lib.hid hs
  have HY := Lib.hid hY
  have Hp := Lib.hid hp
  clear hrd hq hs hY hp
  gi_wp2
  gi_loopw [] (fun wr => ∃ k, k0 ≤ k ∧ J k wr) (fun wr => rs.length - atOf R wr)
  case atStart => exact ⟨k0, Nat.le_refl _, h0⟩
  case round =>
    obtain ⟨k, hk, hJ⟩ := hrel
    have hw := Hrd.out k wr hJ
    have c1 := hw.c1
    have c2 := hw.c2
    have Hw := Lib.hid hw
    by_cases hlt : k < rs.length
    · have hv := hw.rd.rune_in k hlt
      have hne : (runeAt rs k != -1) = true := by simp; omega
      obtain ⟨v, hv'⟩ : ∃ v, runeAt rs k = v := ⟨_, rfl⟩
      have Ha := Lib.hid (fun m => ahead0 (wr.drewN m) (hw.rd.quiet (drewN_grown wr m)))
      rw [hv'] at hne Ha
      cases hpv : p v
      · have Hp0 := Lib.hid (fun w => hpv ▸ Hp.out v w)
        have Hv := Lib.hid hv'
        clear hv' hv hw
        gi_wp2
        refine wpIn_wide.2 ?_
        go_quiet ((first | (go_at_call 145; exact quiet_add (Ha.out _)) | exact quiet_left (Hp0.out _)))
        gi_wp2
        go_end0
        refine ⟨⟨_, rfl⟩, .inl ⟨k, hk, ?_, Hq.out k wr _ hJ (drewN_grown wr _)⟩⟩
        simp [moreB, Hv.out, hpv]
      · have Hp1 := Lib.hid (fun w => hpv ▸ Hp.out v w)
        have Hv := Lib.hid hv'
        clear hv' hv hw
        have hmore : moreB rs p k = true := by simp [moreB, Hv.out, hpv, hlt]
        have Hm := Lib.hid hmore
        clear hmore
        gi_wp2
        refine wpIn_wide.2 ?_
        go_quiet ((first | (go_at_call 145; exact quiet_add (Ha.out _)) | exact quiet_left (Hp1.out _)))
        rename_i nq
        have hJ2 := Hq.out k wr _ hJ (drewN_grown wr nq)
        have hw2 := Hrd.out k _ hJ2
        have c1' := hw2.c1
        have Hw2 := Lib.hid hw2
        have HJ2 := Lib.hid hJ2
        clear hw2 hJ2 c2
        gi_wp2_with fail
        refine ⟨trivial, (fun h => (by cases h)), ?_⟩
        refine (callsIn_wide.2 (step_any _ Hw2.out.rd)).mono ?_
        rintro e W1 ⟨rfl, hg, hr⟩
        have hon : onK rs k = k + 1 := if_pos hlt
        rw [hon] at hr
        obtain ⟨fn, tmps, assign, body, hy, hR⟩ := HY.out k W1 (Hs.out k _ W1 HJ2.out Hm.out hg (Hw2.out.on hg hr)) Hm.out
        rw [Hv.out] at hy ⊢
        have Hr := Lib.hid hr
        have Hg := Lib.hid hg
        clear hr hg hon
        gi_wp2
        refine ⟨(fun h => (by cases h)), hR.mono ?_⟩
        rintro e W3 (⟨rfl, k', hkk, hJ3⟩ | ⟨rfl, hJx⟩)
        · gi_wp2
          go_roundw
          case rel => exact ⟨k', by omega, hJ3⟩
          case measure =>
            rw [(Hrd.out k' _ hJ3).rd.atOf, Hw.out.rd.atOf]
            omega
        · gi_wp2
          refine bodyPost_ret (results_none rfl _ _ _) rfl ?_
          exact ⟨⟨_, rfl⟩, .inr hJx⟩
    · have hr := runeAt_out (rs := rs) (k := k) (by omega)
      have Ha := Lib.hid (fun m => ahead0 (wr.drewN m) (hw.rd.quiet (drewN_grown wr m)))
      rw [hr] at Ha
      clear hr hw
      gi_wp2
      refine wpIn_wide.2 ?_
      go_quiet ((first | (go_at_call 145; exact quiet_add (Ha.out _))))
      gi_wp2
      go_end0
      refine ⟨⟨_, rfl⟩, .inl ⟨k, hk, ?_, Hq.out k wr _ hJ (drewN_grown wr _)⟩⟩
      simp [moreB, hlt]
end Go.Proofs.YtjhnmikciejekaaGreat
