/-
  Texts of one proof, in their order. No condition.
-/
import Derived.Test.YtjhnmikciejekaaGreatPqName
namespace Go.Proofs.YtjhnmikciejekaaGreat
open Go.ChangeShapes Go.WideShapes Go.ChangeAt Go.RowKit Go.Shelf
attribute [local go_sem] Oper.semAt_some
set_option linter.unusedVariables false
theorem numF_done {rs : List Ent} {k : Nat} (n : Int) (h : moreB rs digB k = false) : numF n k ((runesI rs).drop k) = some (n, k) := by
  by_cases hk : k < rs.length
  · rw [drop_at hk, numF, if_neg]
    simpa [moreB, hk] using h
  · rw [drop_end (by omega), numF]
theorem numF_on {rs : List Ent} {k : Nat} {n : Int} (h : moreB rs digB k = true) (hn : ¬ (4611686018427387903 - (runeAt rs k - 48)) / 10 < n) : numF n k ((runesI rs).drop k) = numF (10 * n + (runeAt rs k - 48)) (k + 1) ((runesI rs).drop (k + 1)) := by
  obtain ⟨hk, hp⟩ := more_at h
  rw [drop_at hk, numF, if_pos hp, if_neg hn]
theorem numF_over {rs : List Ent} {k : Nat} {n : Int} (h : moreB rs digB k = true) (hn : (4611686018427387903 - (runeAt rs k - 48)) / 10 < n) : numF n k ((runesI rs).drop k) = none := by
  obtain ⟨hk, hp⟩ := more_at h
  rw [drop_at hk, numF, if_pos hp, if_pos hn]
theorem heap_five (w : World) (a b c d e : Obj) : (((((w.alloc a).alloc b).alloc c).alloc d).alloc e).heap[w.heap.size]? = some a ∧ (((((w.alloc a).alloc b).alloc c).alloc d).alloc e).heap[w.heap.size + 1]? = some b ∧ (((((w.alloc a).alloc b).alloc c).alloc d).alloc e).heap[w.heap.size + 1 + 1]? = some c ∧ (((((w.alloc a).alloc b).alloc c).alloc d).alloc e).heap[w.heap.size + 1 + 1 + 1]? = some d ∧ (((((w.alloc a).alloc b).alloc c).alloc d).alloc e).heap[w.heap.size + 1 + 1 + 1 + 1]? = some e := by
  have h4 := heap_four w a b c d
  refine ⟨?_, ?_, ?_, ?_, ?_⟩
  · rw [Below.heap_alloc _ _ _ (by simp only [World.size_alloc]; omega)]; exact h4.1
  · rw [Below.heap_alloc _ _ _ (by simp only [World.size_alloc]; omega), Below.heap_alloc _ _ _ (by simp only [World.size_alloc]; omega), Below.heap_alloc _ _ _ (by simp only [World.size_alloc]; omega)]; exact (heap_two w a b).2
  · rw [Below.heap_alloc _ _ _ (by simp only [World.size_alloc]; omega)]; exact h4.2.1
  · rw [Below.heap_alloc _ _ _ (by simp only [World.size_alloc]; omega)]; exact h4.2.2
  · have e1 : ((((w.alloc a).alloc b).alloc c).alloc d).heap.size = w.heap.size + 1 + 1 + 1 + 1 := by simp
    rw [← e1]; exact heap_alloc_new _ e
structure NumI (R : Nat) (A : Option Addr) (c : Nat) (rs : List Ent) (eL eC : Int) (k0 : Nat) (w : World) (k j : Nat) (W : World) : Prop where
  base : Base R A c rs eL eC w (w.heap.size + 1 + 1 + 1) 150 j W
  res0 : Boxed W w.heap.size 2 (.int .i64 0)
  res1 : Boxed W (w.heap.size + 1) 38 (.int .i64 0)
  num : ∃ n : Int, Boxed W (w.heap.size + 1 + 1) 2 (.int .i64 n) ∧ 0 ≤ n ∧ n ≤ 4611686018427387903 ∧ numF n k ((runesI rs).drop k) = numF 0 k0 ((runesI rs).drop k0)
structure NumX (R : Nat) (A : Option Addr) (c : Nat) (rs : List Ent) (eL eC : Int) (k0 : Nat) (w : World) (W : World) : Prop where
  base : ∃ j, Base R A c rs eL eC w (w.heap.size + 1 + 1 + 1) 150 j W
  res0 : Boxed W w.heap.size 2 (.int .i64 0)
  res1 : Boxed W (w.heap.size + 1) 38 (.int .i64 3)
  num : numF 0 k0 ((runesI rs).drop k0) = none
theorem NumI.own (R : Nat) (A : Option Addr) (c : Nat) (rs : List Ent) (eL eC : Int) (k0 : Nat) (w : World) (d : Nat) {B : Nat} (hB : w.heap.size ≤ B) : OwnFrom B (fun k W => NumI R A c rs eL eC k0 w k (k + d) W) := by
  intro k X Y row h hg hr
  obtain ⟨n, hn, h1⟩ := h.num
  exact ⟨h.base.on hB hg hr, cells_on hg hr h.res0, cells_on hg hr h.res1, n, cells_on hg hr hn, h1⟩
theorem NumX.own (R : Nat) (A : Option Addr) (c : Nat) (rs : List Ent) (eL eC : Int) (k0 : Nat) (w : World) {B : Nat} (hB : w.heap.size ≤ B) : OwnFrom B (fun (_ : Unit) W => NumX R A c rs eL eC k0 w W) := by
  intro k X Y row h hg hr
  obtain ⟨j, hj⟩ := h.base
  exact ⟨⟨j, hj.on hB hg hr⟩, cells_on hg hr h.res0, cells_on hg hr h.res1, h.num⟩
theorem Base.set {R : Nat} {A : Option Addr} {c : Nat} {rs : List Ent} {eL eC : Int} {w : World} {b g j i : Nat} {W : World} (h : Base R A c rs eL eC w b g j W) (hR : R < w.heap.size) (hi : w.heap.size ≤ i) (hb : i ≠ b ∧ i ≠ b + 1) (v : Value) : Base R A c rs eL eC w b g j (W.setCell ⟨i, 0, none⟩ v) :=
  ⟨grown_new h.grown (grownBy_setCell' W i v) (fun r e => by cases e; exact hi), (Below.heap_setCell _ _ _ _ (by simp; omega)).trans h.blk, h.le, (Below.heap_setCell _ _ _ _ (by simp; omega)).trans h.box1, (Below.heap_setCell _ _ _ _ (by simp; omega)).trans h.box2⟩
theorem box_step {W W' : World} {B R : Nat} {t : TypeId} {v : Value} (h : Boxed W B t v) (hg : W.grownBy W' (some R)) (hne : B ≠ R) : Boxed W' B t v := h.kept hg (by simpa using hne)
def NumTells (R : Nat) (A : Option Addr) (c : Nat) (rs : List Ent) (eL eC : Int) (k0 : Nat) (w : World) (e : Ending) (w' : World) : Prop :=
  w.grownBy w' (some R) ∧ ((∃ n k, numF 0 k0 ((runesI rs).drop k0) = some (n, k) ∧ e = .returned (.tuple #[.int .i64 n, .int .i64 0]) ∧ Rd R A c rs eL eC k w') ∨ (numF 0 k0 ((runesI rs).drop k0) = none ∧ e = .returned (.tuple #[.int .i64 0, .int .i64 3]) ∧ ∃ k, Rd R A c rs eL eC k w'))
theorem num_leave {R : Nat} {A : Option Addr} {c : Nat} {rs : List Ent} {eL eC : Int} {k0 j D : Nat} {w W : World} {x y : Int} (h : Rd R A c rs eL eC k0 w) {b g : Nat} (hB : Base R A c rs eL eC w b g j W) (h0 : Boxed W w.heap.size 2 (.int .i64 x)) (h1 : Boxed W (w.heap.size + 1) 38 (.int .i64 y)) (hK : W.heap[D]? = some (.deferred (some []))) (hD : w.heap.size + 1 + 1 ≤ D) {tmps : Array Value} (t2 : tmps[2]?.getD undef = .pointer (some ⟨w.heap.size, 0, none⟩)) (t3 : tmps[3]?.getD undef = .pointer (some ⟨w.heap.size + 1, 0, none⟩))
    (hs : (∃ n k, numF 0 k0 ((runesI rs).drop k0) = some (n, k) ∧ (x, y) = (n, 0) ∧ j = k) ∨ (numF 0 k0 ((runesI rs).drop k0) = none ∧ (x, y) = (0, 3))) :
    LeavesInM Fence.wide 9 Tryz.prog Tryz.f151 tmps (NumTells R A c rs eL eC k0 w) [] .returning (W.putObj D (.deferred none)) := by
  have hR := h.lt
  have hp : ∀ i, i ≠ D → (W.putObj D (.deferred none)).heap[i]? = W.heap[i]? := fun i hi => World.putObj_heap_other hi
  have c0 : (W.putObj D (.deferred none)).cell? ⟨w.heap.size, 0, none⟩ = some (.int .i64 x) := (World.cell?_of_block (hp _ (by simp; omega))).trans h0.cell
  have c1 : (W.putObj D (.deferred none)).cell? ⟨w.heap.size + 1, 0, none⟩ = some (.int .i64 y) := (World.cell?_of_block (hp _ (by simp; omega))).trans h1.cell
  have hgD : w.grownBy (W.putObj D (.deferred none)) (some R) := grown_new hB.grown (grownBy_putObj' W D _) (fun r e => by cases e; omega)
  have hrd : Rd R A c rs eL eC j (W.putObj D (.deferred none)) := h.later hgD ((hp R (by omega)).trans hB.blk) hB.le
  refine ⟨.tuple #[.int .i64 x, .int .i64 y], ?_, hgD, ?_⟩
  · simp [results, Tryz.results151, go_sem, t2, t3, c0, c1]
  · rcases hs with ⟨n, k, e1, e2, rfl⟩ | ⟨e1, e2⟩
    · cases e2; exact .inl ⟨_, j, e1, rfl, hrd⟩
    · cases e2; exact .inr ⟨e1, rfl, j, hrd⟩
set_option maxRecDepth 100000 in
set_option maxHeartbeats 2000000 in
theorem number_any {R : Nat} {A : Option Addr} {c : Nat} {rs : List Ent} {eL eC : Int} {k0 : Nat} (w : World) (h : Rd R A c rs eL eC k0 w) :
    Calls Tryz.prog 151 #[.pointer (some ⟨R, 0, none⟩)] w (NumTells R A c rs eL eC k0 w) := by
  have hR := h.lt
  refine (callsIn_wide (n := 9)).1 ?_
  refine callsIn_of_wp_marks Tryz.func151 rfl trivial ?_ rfl
  simp only [Tryz.ntmps151, List.size_toArray, List.length_cons, List.length_nil, Nat.reduceAdd, Nat.reduceSub, Array.replicate_succ, Array.replicate_zero, List.push_toArray, List.append_toArray, List.nil_append, List.cons_append]
  gi_wp2_with fail
  refine ⟨trivial, (callsIn_wide.2 (while_any _ _ _)).mono ?_⟩
  rintro e w1 ⟨rfl, rfl⟩
  gi_wp2
  obtain ⟨W0, hW0⟩ : ∃ W0, ((((w.alloc (.cells #[.int .i64 0] 2)).alloc (.cells #[.int .i64 0] 38)).alloc (.cells #[.int .i64 0] 2)).alloc (.cells #[.pointer (some ⟨R, 0, none⟩)] 183)).alloc (.cells #[.func (.func 150) #[] #[]] 109) = W0 := ⟨_, rfl⟩
  have hsz : W0.heap.size = w.heap.size + 1 + 1 + 1 + 1 + 1 := by rw [← hW0]; simp
  have hg0 : w.grownBy W0 (some R) := by rw [← hW0]; exact grown_trans (grown_trans (grown_trans (grown_trans (grown_alloc _ _ _) (grown_alloc _ _ _)) (grown_alloc _ _ _)) (grown_alloc _ _ _)) (grown_alloc _ _ _)
  have h5 := heap_five w (.cells #[.int .i64 0] 2) (.cells #[.int .i64 0] 38) (.cells #[.int .i64 0] 2) (.cells #[.pointer (some ⟨R, 0, none⟩)] 183) (.cells #[.func (.func 150) #[] #[]] 109)
  rw [hW0] at h5
  have hI0 : NumI R A c rs eL eC k0 w k0 (k0 + 0) W0 := by
    refine ⟨⟨hg0, ?_, h.le, h5.2.2.2.1, h5.2.2.2.2⟩, h5.1, h5.2.1, 0, h5.2.2.1, by omega, by omega, rfl⟩
    rw [← hW0, Below.heap_alloc _ _ _ (by simp; omega), Below.heap_alloc _ _ _ (by simp; omega), Below.heap_alloc _ _ _ (by simp; omega), Below.heap_alloc _ _ _ (by simp; omega), Below.heap_alloc _ _ _ (by omega)]
    exact h.blk
  rw [hW0]
  refine wpIn_co rfl (by omega) (gf := 198) (lb := #[.pointer (some ⟨w.heap.size + 1 + 1 + 1, 0, none⟩), .pointer (some ⟨w.heap.size + 1 + 1 + 1 + 1, 0, none⟩)]) rfl trivial (enters_of Tryz.func198 (by kernel_rfl) rfl)
    (while_iter R A c rs eL eC (w.heap.size + 1 + 1 + 1) (w.heap.size + 1 + 1 + 1 + 1) 150 digB _ dig_any (enters_of Tryz.func150 (by kernel_rfl) rfl)) rfl (by omega)
    (fun k W => NumI R A c rs eL eC k0 w k (k + 0) W) (fun k W => NumI R A c rs eL eC k0 w k (k + 1) W) (fun cd W => cd = .ret ∧ NumX R A c rs eL eC k0 w W)
    (NumI.own R A c rs eL eC k0 w 0 (by omega)) (NumI.own R A c rs eL eC k0 w 1 (by omega)) (fun cd s X Y row hs hg hr => ⟨hs.1, NumX.own R A c rs eL eC k0 w (B := W0.heap.size) (by omega) () X Y row hs.2 hg hr⟩)
    (fun k W hI => hI.base.rd h (by omega)) (fun k W W' hI hm hg hr => ⟨hI.base.step hg hr, box_step hI.res0 hg (by omega), box_step hI.res1 hg (by omega), ?rows⟩) hI0
    (fun k => { tmps := #[.pointer (some ⟨R, 0, none⟩), undef, .pointer (some ⟨w.heap.size, 0, none⟩), .pointer (some ⟨w.heap.size + 1, 0, none⟩), .pointer (some ⟨w.heap.size + 1 + 1, 0, none⟩), .int .i32 (runeAt rs k), undef, .pointer (some ⟨R, 0, none⟩), .func (.func 198) #[] #[.pointer (some ⟨w.heap.size + 1 + 1 + 1, 0, none⟩), .pointer (some ⟨w.heap.size + 1 + 1 + 1 + 1, 0, none⟩)], .int .i32 (runeAt rs k), undef, undef, undef, undef, undef, undef, undef, undef, undef, undef, undef, undef, undef], defers := [] }) ?assign ?body ?done ?stop
  case rows =>
    obtain ⟨n, hn, h1⟩ := hI.num
    exact ⟨n, box_step hn hg (by omega), h1⟩
  case assign =>
    intro l k W K hK
    gi_wp2
    exact hK
  case body =>
    rintro l k W hl hlr hI hm
    obtain ⟨n, hn, hn0, hn1, h1⟩ := hI.num
    obtain ⟨hlt, hp⟩ := more_at hm
    have hp' : 48 ≤ runeAt rs k ∧ runeAt rs k ≤ 57 := by simpa [digB] using hp
    obtain ⟨hp1, hp2⟩ := hp'
    have hc := hn.cell
    have hf := hn.frozen
    have hc0 := hI.res0.cell
    have hf0 := hI.res0.frozen
    have hc1 := hI.res1.cell
    have hf1 := hI.res1.frozen
    have H1 := Lib.hid h1
    have Hm := Lib.hid hm
    clear h1 hp hm
    by_cases hov : (4611686018427387903 - (runeAt rs k - 48)) / 10 < n
    · have hno := numF_over Hm.out hov
      have Hno := Lib.hid hno
      clear hno
      gi_wp2
      exact ⟨((KeepsOthers.setCell _ _ _).trans (KeepsOthers.setCell _ _ _)).from _, rfl, ⟨_, (hI.base.set hR (Nat.le_refl _) (by omega) _).set hR (by omega) (by omega) _⟩, Boxed.other (hI.res0.set _) (by omega) _, Boxed.set _ (Boxed.other hI.res1 (by omega) _), H1.out.symm.trans Hno.out⟩
    · have hon := numF_on Hm.out hov
      have Hon := Lib.hid hon
      clear hon
      have hov' : n ≤ (4611686018427387903 - (runeAt rs k - 48)) / 10 := by omega
      gi_wp2
      exact ⟨(KeepsOthers.setCell _ _ _).from _, k + 1, by omega, hI.base.set hR (by omega) (by omega) _, Boxed.other hI.res0 (by omega) _, Boxed.other hI.res1 (by omega) _, _, hn.set _, by omega, by omega, Hon.out.symm.trans H1.out⟩
  case done =>
    rintro D k W hD hk hm hI hK
    obtain ⟨n, hn, hn0, hn1, h1⟩ := hI.num
    rw [numF_done n hm] at h1
    have H1 := Lib.hid h1
    have HK := Lib.hid hK
    have hc := hn.cell
    have hc0 := hI.res0.cell
    have hf0 := hI.res0.frozen
    have hc1 := hI.res1.cell
    have hf1 := hI.res1.frozen
    have hB := (hI.base.set hR (i := w.heap.size) (Nat.le_refl _) (by omega) (.int .i64 n)).set hR (i := w.heap.size + 1) (by omega) (by omega) (.int .i64 0)
    have hr0 : Boxed ((W.setCell ⟨w.heap.size, 0, none⟩ (.int .i64 n)).setCell ⟨w.heap.size + 1, 0, none⟩ (.int .i64 0)) w.heap.size 2 (.int .i64 n) := Boxed.other (hI.res0.set _) (by omega) _
    have hr1 : Boxed ((W.setCell ⟨w.heap.size, 0, none⟩ (.int .i64 n)).setCell ⟨w.heap.size + 1, 0, none⟩ (.int .i64 0)) (w.heap.size + 1) 38 (.int .i64 0) := Boxed.set _ (Boxed.other hI.res1 (by omega) _)
    have hK' := (Below.heap_setCell (W.setCell ⟨w.heap.size, 0, none⟩ (.int .i64 n)) ⟨w.heap.size + 1, 0, none⟩ (.int .i64 0) D (by simp; omega)).trans ((Below.heap_setCell W ⟨w.heap.size, 0, none⟩ (.int .i64 n) D (by simp; omega)).trans HK.out)
    have HB := Lib.hid hB
    have Hr0 := Lib.hid hr0
    have Hr1 := Lib.hid hr1
    have HK' := Lib.hid hK'
    clear h1 hK hB hr0 hr1 hK'
    gi_wp2
    refine ⟨by simp, .inl ⟨_, _, rfl, run_takeDeferred HK'.out, ?_⟩⟩
    exact num_leave h HB.out Hr0.out Hr1.out HK'.out (by omega) rfl rfl (.inl ⟨n, k, H1.out.symm, rfl, rfl⟩)
  case stop =>
    rintro D c' W hD ⟨rfl, hx⟩ hK
    obtain ⟨j, hj⟩ := hx.base
    gi_wp2
    refine ⟨by simp, .inl ⟨_, _, rfl, run_takeDeferred hK, ?_⟩⟩
    exact num_leave h hj hx.res0 hx.res1 hK (by omega) rfl rfl (.inr ⟨hx.num, rfl⟩)
end Go.Proofs.YtjhnmikciejekaaGreat
