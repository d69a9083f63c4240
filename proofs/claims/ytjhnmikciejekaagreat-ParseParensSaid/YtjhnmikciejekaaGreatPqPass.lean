/-
  Texts of one proof, in their order. No condition.
-/
import Derived.Test.YtjhnmikciejekaaGreatPqTextR
namespace Go.Proofs.YtjhnmikciejekaaGreat
open Go.ChangeShapes Go.WideShapes Go.ChangeAt Go.RowKit Go.Shelf
attribute [local go_sem] Oper.semAt_some
set_option linter.unusedVariables false
theorem skip_done {rs : List Ent} {k : Nat} (h : moreB rs passB k = false) : skipF false k ((runesI rs).drop k) = k := by
  by_cases hk : k < rs.length
  · have hp : passB (runeAt rs k) = false := by simpa [moreB, hk] using h
    have h1 : ¬ blankB (runeAt rs k) = true ∧ runeAt rs k ≠ 35 := by simpa [passB] using hp
    rw [drop_at hk, skipF, if_neg h1.1, if_neg h1.2]
  · rw [drop_end (by omega), skipF]
theorem skip_blank {rs : List Ent} {k : Nat} (h : moreB rs passB k = true) (hn : runeAt rs k ≠ 35) : skipF false k ((runesI rs).drop k) = skipF false (k + 1) ((runesI rs).drop (k + 1)) := by
  obtain ⟨hk, hp⟩ := more_at h
  have h1 : blankB (runeAt rs k) = true := by
    have : blankB (runeAt rs k) = true ∨ runeAt rs k = 35 := by simpa [passB] using hp
    exact this.resolve_right hn
  rw [drop_at hk, skipF, if_pos h1]
theorem skip_rem {rs : List Ent} {k : Nat} (h : moreB rs passB k = true) (hn : runeAt rs k = 35) : skipF false k ((runesI rs).drop k) = skipF true (k + 1) ((runesI rs).drop (k + 1)) := by
  obtain ⟨hk, hp⟩ := more_at h
  rw [drop_at hk, hn, skipF, if_neg (by decide), if_pos rfl]
theorem rem_on {rs : List Ent} {k : Nat} (h : moreB rs remB k = true) : skipF true k ((runesI rs).drop k) = skipF true (k + 1) ((runesI rs).drop (k + 1)) := by
  obtain ⟨hk, hp⟩ := more_at h
  have h1 : runeAt rs k ≠ 10 := by simpa [remB] using hp
  rw [drop_at hk, skipF, if_neg h1]
theorem rem_done {rs : List Ent} {k : Nat} (h : moreB rs remB k = false) : skipF true k ((runesI rs).drop k) = skipF false k ((runesI rs).drop k) := by
  by_cases hk : k < rs.length
  · have hp : remB (runeAt rs k) = false := by simpa [moreB, hk] using h
    have h1 : runeAt rs k = 10 := by simpa [remB] using hp
    rw [drop_at hk, h1]
    have e1 : skipF true k (10 :: (runesI rs).drop (k + 1)) = skipF false (k + 1) ((runesI rs).drop (k + 1)) := by rw [skipF, if_pos rfl]
    have e2 : skipF false k (10 :: (runesI rs).drop (k + 1)) = skipF false (k + 1) ((runesI rs).drop (k + 1)) := by rw [skipF, if_pos (by decide)]
    rw [e1, e2]
  · rw [drop_end (by omega), skipF, skipF]
structure PassI (R : Nat) (A : Option Addr) (c : Nat) (rs : List Ent) (eL eC : Int) (k0 : Nat) (w : World) (m : Bool) (k j : Nat) (W : World) : Prop where
  base : Base R A c rs eL eC w (w.heap.size + 1) 174 j W
  arg : Boxed W w.heap.size 183 (.pointer (some ⟨R, 0, none⟩))
  skip : skipF m k ((runesI rs).drop k) = skipF false k0 ((runesI rs).drop k0)
theorem PassI.on {R : Nat} {A : Option Addr} {c : Nat} {rs : List Ent} {eL eC : Int} {k0 : Nat} {w : World} {m : Bool} {k j B : Nat} {X Y : World} {row : Option Nat} (hB : w.heap.size ≤ B) (h : PassI R A c rs eL eC k0 w m k j X) (hg : X.grownBy Y row) (hr : ∀ r, row = some r → B ≤ r ∧ ∃ o : Obj, X.heap[r]? = some o ∧ o.isCells = false) : PassI R A c rs eL eC k0 w m k j Y :=
  ⟨h.base.on hB hg hr, cells_on hg hr h.arg, h.skip⟩
structure RemI (R : Nat) (A : Option Addr) (c : Nat) (rs : List Ent) (eL eC : Int) (k0 : Nat) (w : World) (B : Nat) (W0 : World) (k j : Nat) (W : World) : Prop where
  pass : PassI R A c rs eL eC k0 w true k j W
  box1 : W.heap[W0.heap.size]? = some (.cells #[.pointer (some ⟨R, 0, none⟩)] 183 (0, 0))
  box2 : W.heap[W0.heap.size + 1]? = some (.cells #[.func (.func 175) #[] #[]] 109 (0, 0))
  keeps : KeepsFrom B W0 W
theorem RemI.own (R : Nat) (A : Option Addr) (c : Nat) (rs : List Ent) (eL eC : Int) (k0 : Nat) (w : World) (B : Nat) (W0 : World) (d : Nat) {B' : Nat} (hB : w.heap.size ≤ B') (hB0 : W0.heap.size ≤ B') : OwnFrom B' (fun k W => RemI R A c rs eL eC k0 w B W0 k (k + d) W) := by
  intro k X Y row h hg hr
  exact ⟨h.pass.on hB hg hr, cells_on hg hr h.box1, cells_on hg hr h.box2, ownFrom_keepsFrom (β := Unit) hB0 () X Y row h.keeps hg hr⟩
set_option maxRecDepth 100000 in
set_option maxHeartbeats 2000000 in
theorem pass_any {R : Nat} {A : Option Addr} {c : Nat} {rs : List Ent} {eL eC : Int} {k0 : Nat} (w : World) (h : Rd R A c rs eL eC k0 w) :
    Calls Tryz.prog 143 #[.pointer (some ⟨R, 0, none⟩)] w fun e w' => (∃ v, e = .returned v) ∧ w.grownBy w' (some R) ∧ Rd R A c rs eL eC (passF rs k0) w' := by
  have hR := h.lt
  refine (callsIn_wide (n := 15)).1 ?_
  refine callsIn_of_wp_marks Tryz.func143 rfl trivial ?_ rfl
  simp only [Tryz.ntmps143, List.size_toArray, List.length_cons, List.length_nil, Nat.reduceAdd, Nat.reduceSub, Array.replicate_succ, Array.replicate_zero, List.push_toArray, List.append_toArray, List.nil_append, List.cons_append]
  gi_wp2_with fail
  refine ⟨trivial, (callsIn_wide.2 (while_any _ _ _)).mono ?_⟩
  rintro e w1 ⟨rfl, rfl⟩
  gi_wp2
  obtain ⟨W0, hW0⟩ : ∃ W0, ((w.alloc (.cells #[.pointer (some ⟨R, 0, none⟩)] 183)).alloc (.cells #[.pointer (some ⟨R, 0, none⟩)] 183)).alloc (.cells #[.func (.func 174) #[] #[]] 109) = W0 := ⟨_, rfl⟩
  have hsz : W0.heap.size = w.heap.size + 1 + 1 + 1 := by rw [← hW0]; simp
  have hg0 : w.grownBy W0 (some R) := by rw [← hW0]; exact grown_trans (grown_trans (grown_alloc _ _ _) (grown_alloc _ _ _)) (grown_alloc _ _ _)
  have h3 := heap_three w (.cells #[.pointer (some ⟨R, 0, none⟩)] 183) (.cells #[.pointer (some ⟨R, 0, none⟩)] 183) (.cells #[.func (.func 174) #[] #[]] 109)
  have hb1 : W0.heap[w.heap.size + 1]? = some (.cells #[.pointer (some ⟨R, 0, none⟩)] 183 (0, 0)) := by
    rw [← hW0, Below.heap_alloc _ _ _ (by simp)]; exact (heap_two w _ _).2
  have hI0 : PassI R A c rs eL eC k0 w false k0 (k0 + 0) W0 := by
    refine ⟨⟨hg0, ?_, h.le, hb1, by rw [← hW0]; exact h3.2⟩, by rw [← hW0]; exact h3.1, rfl⟩
    rw [← hW0, Below.heap_alloc _ _ _ (by simp; omega), Below.heap_alloc _ _ _ (by simp; omega), Below.heap_alloc _ _ _ (by omega)]
    exact h.blk
  rw [hW0]
  refine wpIn_co rfl (by omega) (gf := 198) (lb := #[.pointer (some ⟨w.heap.size + 1, 0, none⟩), .pointer (some ⟨w.heap.size + 1 + 1, 0, none⟩)]) rfl trivial (enters_of Tryz.func198 (by kernel_rfl) rfl)
    (while_iter R A c rs eL eC (w.heap.size + 1) (w.heap.size + 1 + 1) 174 passB _ passed_any (enters_of Tryz.func174 (by kernel_rfl) rfl)) rfl (by omega)
    (fun k W => PassI R A c rs eL eC k0 w false k (k + 0) W) (fun k W => PassI R A c rs eL eC k0 w false k (k + 1) W) (fun _ _ => False)
    (fun k X Y row hs hg hr => hs.on (B := W0.heap.size) (by omega) hg hr) (fun k X Y row hs hg hr => hs.on (B := W0.heap.size) (by omega) hg hr) (fun _ _ _ _ _ hs _ _ => hs)
    (fun k W hI => hI.base.rd h (by omega)) (fun k W W' hI hm hg hr => ⟨hI.base.step hg hr, box_step hI.arg hg (by omega), hI.skip⟩) hI0
    (fun k => { tmps := #[.pointer (some ⟨R, 0, none⟩), .pointer (some ⟨w.heap.size, 0, none⟩), .int .i32 (runeAt rs k), .pointer (some ⟨R, 0, none⟩), .func (.func 198) #[] #[.pointer (some ⟨w.heap.size + 1, 0, none⟩), .pointer (some ⟨w.heap.size + 1 + 1, 0, none⟩)], .int .i32 (runeAt rs k), undef, undef, undef, undef, undef], defers := [] }) ?assign ?body ?done ?stop
  case assign =>
    intro l k W K hK
    gi_wp2
    exact hK
  case body =>
    rintro l k W hl ⟨r, hlr⟩ hI hm
    have hac := hI.arg.cell
    have Hm := Lib.hid hm
    clear hm
    by_cases h35 : runeAt rs k = 35
    · have hsk := skip_rem Hm.out h35
      have Hsk := Lib.hid (hsk.symm.trans hI.skip)
      rw [h35]
      clear h35 hsk
      gi_wp2_with fail
      refine ⟨trivial, (CallsIn.inRound l (callsIn_wide.2 (while_any _ _ _))).mono ?_⟩
      rintro e w1 ⟨rfl, rfl⟩
      gi_wp2
      obtain ⟨V0, hV0⟩ : ∃ V0, (W.alloc (.cells #[.pointer (some ⟨R, 0, none⟩)] 183)).alloc (.cells #[.func (.func 175) #[] #[]] 109) = V0 := ⟨_, rfl⟩
      have hvz : V0.heap.size = W.heap.size + 1 + 1 := by rw [← hV0]; simp
      have hgv : W.grownBy V0 none := by rw [← hV0]; exact grown_trans (grown_alloc _ _ _) (grown_alloc _ _ _)
      have h2 := heap_two W (.cells #[.pointer (some ⟨R, 0, none⟩)] 183) (.cells #[.func (.func 175) #[] #[]] 109)
      rw [hV0] at h2
      have hlw : l < W.heap.size := (Array.getElem?_eq_some_iff.1 hlr).1
      have hlr' : V0.heap[l]? = some (.loop r) := (hgv.block l hlw (by simp)).trans hlr
      have hIv := hI.on (B := w.heap.size) (Nat.le_refl _) hgv (fun r e => by cases e)
      have hwz : w.heap.size ≤ W.heap.size := hI.base.grown.size
      have hk0 : KeepsFrom W0.heap.size W V0 := KeepsFrom.of_grownBy hgv (fun j e => by cases e)
      have hJ0 : RemI R A c rs eL eC k0 w W0.heap.size W (k + 1) (k + 1 + 0) V0 := ⟨⟨hIv.base, hIv.arg, Hsk.out⟩, h2.1, h2.2, hk0⟩
      rw [hV0]
      refine wpIn_coIn (l₀ := l) (r₀ := r) rfl hlr' (by omega) (gf := 198) (lb := #[.pointer (some ⟨W.heap.size, 0, none⟩), .pointer (some ⟨W.heap.size + 1, 0, none⟩)]) rfl trivial (enters_of Tryz.func198 (by kernel_rfl) rfl)
        ((while_iter R A c rs eL eC W.heap.size (W.heap.size + 1) 175 remB _ remark_any (enters_of Tryz.func175 (by kernel_rfl) rfl)).inRound l) rfl (by omega)
        (fun j V => RemI R A c rs eL eC k0 w W0.heap.size W j (j + 0) V) (fun j V => RemI R A c rs eL eC k0 w W0.heap.size W j (j + 1) V) (fun _ _ => False)
        (RemI.own R A c rs eL eC k0 w W0.heap.size W 0 (by omega) (by omega)) (RemI.own R A c rs eL eC k0 w W0.heap.size W 1 (by omega) (by omega)) (fun _ _ _ _ _ hs _ _ => hs)
        (fun j V hJ => ⟨h.later hJ.pass.base.grown hJ.pass.base.blk hJ.pass.base.le, hJ.box1, hJ.box2, by omega, by omega⟩)
        (fun j V V' hJ hm hg hr => ⟨⟨hJ.pass.base.move hg hr.rd (by omega), box_step hJ.pass.arg hg (by omega), hJ.pass.skip⟩, hr.box1, hr.box2, hJ.keeps.trans (KeepsFrom.of_grownBy hg (fun j e => by cases e; omega))⟩) hJ0
        (fun j => { tmps := #[.pointer (some ⟨R, 0, none⟩), .pointer (some ⟨w.heap.size, 0, none⟩), .int .i32 35, .pointer (some ⟨R, 0, none⟩), .func (.func 198) #[] #[.pointer (some ⟨w.heap.size + 1, 0, none⟩), .pointer (some ⟨w.heap.size + 1 + 1, 0, none⟩)], .int .i32 35, .int .i32 35, .bool true, .pointer (some ⟨R, 0, none⟩), .func (.func 198) #[] #[.pointer (some ⟨W.heap.size, 0, none⟩), .pointer (some ⟨W.heap.size + 1, 0, none⟩)], .int .i32 (runeAt rs j)], defers := [] }) ?assign2 ?body2 ?done2 ?stop2
      case assign2 =>
        intro l' j V K hK
        refine wpIn_skip ?_
        show K _ V
        simpa using hK
      case body2 =>
        rintro l' j V hl' hlr2 hJ hm
        gi_wp2
        exact ⟨KeepsFrom.refl _ _, j + 1, by omega, ⟨hJ.pass.base, hJ.pass.arg, (rem_on hm).symm.trans hJ.pass.skip⟩, hJ.box1, hJ.box2, hJ.keeps⟩
      case done2 =>
        rintro j V hkj hm hJ
        gi_wp2
        exact ⟨hJ.keeps, j, by omega, hJ.pass.base, hJ.pass.arg, (rem_done hm).symm.trans hJ.pass.skip⟩
      case stop2 =>
        rintro c' V hx
        exact hx.elim
    · have hne : (runeAt rs k == 35) = false := by simpa using h35
      have hsk := skip_blank Hm.out h35
      have Hsk := Lib.hid (hsk.symm.trans hI.skip)
      clear h35 hsk
      gi_wp2
      exact ⟨KeepsFrom.refl _ _, k + 1, by omega, hI.base, hI.arg, Hsk.out⟩
  case done =>
    rintro D k W hD hk hm hI hK
    have hs := hI.skip
    rw [skip_done hm] at hs
    have hgD : w.grownBy (W.putObj D (.deferred none)) (some R) := grown_new hI.base.grown (grownBy_putObj' W D _) (fun r e => by cases e; omega)
    have hrd : Rd R A c rs eL eC (passF rs k0) (W.putObj D (.deferred none)) := by
      rw [passF, ← hs]
      exact h.later hgD ((World.putObj_heap_other (by omega)).trans hI.base.blk) hI.base.le
    gi_wp2
    refine ⟨by simp, .inl ⟨_, _, rfl, run_takeDeferred hK, ?_⟩⟩
    exact ⟨_, results_none rfl _ _ _, ⟨_, rfl⟩, hgD, hrd⟩
  case stop =>
    rintro D c' W _ hx _
    exact hx.elim
end Go.Proofs.YtjhnmikciejekaaGreat
