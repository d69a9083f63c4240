/-
  Texts of one proof, in their order. No condition.
-/
import Derived.Test.YtjhnmikciejekaaGreatPqEscape
namespace Go.Proofs.YtjhnmikciejekaaGreat
open Go.ChangeShapes Go.WideShapes Go.ChangeAt Go.RowKit Go.Shelf
attribute [local go_sem] Oper.semAt_some
set_option linter.unusedVariables false
theorem textF_done {rs : List Ent} {k : Nat} (acc : List UInt8) (h : moreB rs textB k = false) : textF acc k ((runesI rs).drop k) = if runeAt rs k = 34 then some (acc, k + 1) else none := by
  by_cases hk : k < rs.length
  · have hp : textB (runeAt rs k) = false := by simpa [moreB, hk] using h
    rw [drop_at hk]
    have : runeAt rs k = 34 ∨ runeAt rs k = 10 := by
      simp [textB] at hp; omega
    rcases this with e | e
    · rw [e]; rfl
    · rw [e]; rfl
  · rw [drop_end (by omega), runeAt_out (by omega)]; rfl
theorem textF_on {rs : List Ent} {k : Nat} (acc : List UInt8) (h : moreB rs textB k = true) (hn : runeAt rs k ≠ 92) : textF acc k ((runesI rs).drop k) = textF (acc ++ enc (runeAt rs k)) (k + 1) ((runesI rs).drop (k + 1)) := by
  obtain ⟨hk, hp⟩ := more_at h
  rw [drop_at hk]; exact textF_rune acc k _ _ hp hn
theorem textF_back {rs : List Ent} {k : Nat} (acc : List UInt8) (h : moreB rs textB k = true) (hn : runeAt rs k = 92) {b : UInt8} {m : Nat} (he : escF ((runesI rs).drop (k + 1)) = some (b, m)) : textF acc k ((runesI rs).drop k) = textF (acc ++ [b]) (k + 1 + m) ((runesI rs).drop (k + 1 + m)) := by
  obtain ⟨hk, hp⟩ := more_at h
  rw [drop_at hk, hn, textF_esc acc k _ he, List.drop_drop]
theorem textF_bad {rs : List Ent} {k : Nat} (acc : List UInt8) (h : moreB rs textB k = true) (hn : runeAt rs k = 92) (he : escF ((runesI rs).drop (k + 1)) = none) : textF acc k ((runesI rs).drop k) = none := by
  obtain ⟨hk, hp⟩ := more_at h
  rw [drop_at hk, hn, textF_no acc k _ he]
theorem stepIn_append {F : Fence} {n : Nat} {P : Program} {ops : Array Oper} {o : Oper} {a : Act} {w : World} {K : Act → World → Prop} {Q : Exit → Act → World → Prop} {E : Prop}
    (hg : o.guard = none) (s x : Operand) (t : TypeId) (hop : o.op = Op.call { callee := Callee.builtin Builtin.append, args := #[s, x], argTypes := #[t, t] })
    (base : Nat) (e : TypeId) (i : TypeInfo) (z : Value) (size bytes : Nat) (h1 : P.underlying t = some (.slice e)) (h2 : P.info? e = some i) (h3 : i.zero = some z) (h4 : i.size = size) (h5 : i.bytes = bytes) (h6 : z.cells.size = size) (h7 : 0 < size)
    (v : Value) (k : Nat) (xs : List Value) (hs : a.eval s = v) (hown : w.ownsRow base e size v k xs) (ad : Addr) (m c : Nat) (news : List Value) (hx : a.eval x = .slice (some ad) m c) (hn : news.length = m * size)
    (hc : ∀ j u, news[j]? = some u → w.cell? (ad.add j) = some u) (h1c : ∀ u ∈ news, u.oneCell' = true) (b1 : k + m ≤ maxLen) (b2 : (k + m) * bytes ≤ 140737488355328) (b3 : base ≤ w.heap.size)
    (hK : ∀ v' w', w'.ownsRow base e size v' (k + m) (xs ++ news) → w.grownBy w' v.ownBlock → K (a.put o.dst v') w') :
    if Region.wanted o (yielded ops a.tmps) = true then Oper.wpIn F n P o a w K Q else E := by
  have hw : Region.wanted o (yielded ops a.tmps) = true := by simp [Region.wanted, hg]
  rw [if_pos hw]
  obtain ⟨v', w', hrun, r1, r2, r3⟩ := run_append_own (P := P) w base t o.type e i z size bytes h1 h2 h3 h4 h5 h6 h7 v k xs hown ad m c news hn hc h1c b1 b2 b3
  unfold Oper.wpIn
  refine ⟨?_, ?_⟩
  · simp [Oper.about, hop, resolve, Target.leads, Sem.run_pure]
  · rw [Oper.semAt_plain F _ _ (by rw [hop]; intro c hc'; cases hc')]
    simp [execOp, hop, resolve, invoke, builtin, hs, hx, hrun, Result.andThen]
    exact hK v' w' r1 r2
structure Appd (W W' : World) (L : Nat) (v : Value) : Prop where
  os : W'.os = W.os
  tape : W'.tape = W.tape
  output : W'.output = W.output
  size : W.heap.size ≤ W'.heap.size
  block : ∀ i, i < W.heap.size → i ≠ L → some i ≠ v.ownBlock → W'.heap[i]? = W.heap[i]?
theorem Appd.keeps {W W' : World} {L : Nat} {v : Value} {base e k size : Nat} {xs : List Value} {u : Value} {t : TypeId} (h : Appd W W' L v) (hv : Boxed W L t u) (hrow : W.ownsRow base e size v k xs) (B : Nat) : KeepsFrom B W W' :=
  ⟨h.size, fun i o _ hi ho => (h.block i (Array.getElem?_eq_some_iff.1 hi).1 (fun e' => by subst e'; rw [show W.heap[i]? = _ from hv] at hi; cases hi; cases ho) (fun e' => by
    rcases hrow.2 with ⟨rfl, _⟩ | ⟨g, cap, cur, rfl, _, hgb, _⟩
    · simp [Value.ownBlock] at e'
    · obtain rfl : i = g := by simpa [Value.ownBlock] using e'
      rw [hgb] at hi; cases hi; cases ho)).trans hi⟩
theorem Appd.box {W W' : World} {L : Nat} {v : Value} {base e k size : Nat} {xs : List Value} {i : Nat} {t : TypeId} {cs : Array Value} (h : Appd W W' L v) (hrow : W.ownsRow base e size v k xs) (hb : W.heap[i]? = some (.cells cs t (0, 0))) (hne : i ≠ L) (hte : t ≠ e) : W'.heap[i]? = some (.cells cs t (0, 0)) :=
  (h.block i (Array.getElem?_eq_some_iff.1 hb).1 hne (not_own hrow hb hte)).trans hb
theorem Appd.base {R : Nat} {A : Option Addr} {c : Nat} {rs : List Ent} {eL eC : Int} {w : World} {b g j L : Nat} {W W' : World} {v : Value} {e k size : Nat} {xs : List Value} (h : Appd W W' L v) (hrow : W.ownsRow w.heap.size e size v k xs) (hB : Base R A c rs eL eC w b g j W) (hL : w.heap.size ≤ L) (hR : R < w.heap.size) (hb : L ≠ b ∧ L ≠ b + 1) (he : e ≠ 183 ∧ e ≠ 109) : Base R A c rs eL eC w b g j W' := by
  have hv : ∀ i, i < w.heap.size → some i ≠ v.ownBlock := fun i hi e' => by have := (hrow.lt i e'.symm).1; omega
  have hz := hB.grown.size
  refine ⟨⟨h.os.trans hB.grown.os, h.tape.trans hB.grown.tape, h.output.trans hB.grown.output, Nat.le_trans hz h.size, fun i hi hn => (h.block i (by omega) (by omega) (hv i hi)).trans (hB.grown.block i hi hn)⟩, (h.block R (by omega) (by omega) (hv R hR)).trans hB.blk, hB.le, h.box hrow hB.box1 (by omega) (Ne.symm he.1), h.box hrow hB.box2 (by omega) (Ne.symm he.2)⟩
theorem appd_of {W W1 w1 : World} {L base e k size : Nat} {v v' : Value} {xs : List Value} (hb : Below W.heap.size W W1) (hg : W1.grownBy w1 v.ownBlock) : Appd W (w1.setCell ⟨L, 0, none⟩ v') L v :=
  ⟨hg.os.trans hb.os, hg.tape.trans hb.tape, hg.output.trans hb.output, by have := hg.size; have := hb.size; simp [World.setCell]; omega, fun i hi hL hv => by
    rw [Below.heap_setCell _ _ _ _ (by simpa using hL), hg.block i (by have := hb.size; omega) hv, hb.block i hi]⟩
theorem owns_below {W W1 : World} {base e k size : Nat} {v : Value} {xs : List Value} (h : W.ownsRow base e size v k xs) (hb : Below W.heap.size W W1) : W1.ownsRow base e size v k xs :=
  owns_same h (fun i _ hi => hb.block i hi)
theorem box_below {W W1 : World} {L : Nat} {t : TypeId} {v : Value} (h : Boxed W L t v) (hb : Below W.heap.size W W1) : Boxed W1 L t v := (hb.block L h.lt).trans h
theorem bytes_at {w : World} {g : Nat} {l : List UInt8} (h : ∀ j (hj : j < l.length), w.cell? ⟨g, j, none⟩ = some (.int .u8 (l[j].toNat : Int))) : ∀ j u, (Lib.byteCells l)[j]? = some u → w.cell? ((⟨g, 0, none⟩ : Addr).add j) = some u := by
  intro j u hu
  have e : (⟨g, 0, none⟩ : Addr).add j = ⟨g, j, none⟩ := by unfold Addr.add; split <;> simp_all
  rw [e]
  have hj : j < l.length := by
    have := (List.getElem?_eq_some_iff.1 hu).1
    simpa [Lib.byteCells] using this
  rw [h j hj]
  simpa [Lib.byteCells, hj] using hu
theorem bytes_one (l : List UInt8) : ∀ u ∈ Lib.byteCells l, u.oneCell' = true := by
  intro u hu
  simp [Lib.byteCells] at hu
  obtain ⟨x, _, rfl⟩ := hu
  rfl
structure TextI (R : Nat) (A : Option Addr) (c : Nat) (rs : List Ent) (eL eC : Int) (k0 : Nat) (w : World) (L : Nat) (k j : Nat) (W : World) : Prop where
  base : Base R A c rs eL eC w (L + 1) 180 j W
  arg : Boxed W w.heap.size 183 (.pointer (some ⟨R, 0, none⟩))
  res0 : Boxed W (w.heap.size + 1) 30 (.slice none 0 0)
  res1 : Boxed W (w.heap.size + 1 + 1) 38 (.int .i64 0)
  row : ∃ v acc, Boxed W L 30 v ∧ W.ownsRow w.heap.size 5 1 v acc.length (Lib.byteCells acc) ∧ acc.length ≤ 4 * k ∧ textF acc k ((runesI rs).drop k) = textF [] (k0 + 1) ((runesI rs).drop (k0 + 1))
structure TextX (R : Nat) (A : Option Addr) (c : Nat) (rs : List Ent) (eL eC : Int) (k0 : Nat) (w : World) (L : Nat) (W : World) : Prop where
  base : ∃ j, Base R A c rs eL eC w (L + 1) 180 j W
  res0 : Boxed W (w.heap.size + 1) 30 (.slice none 0 0)
  res1 : Boxed W (w.heap.size + 1 + 1) 38 (.int .i64 4)
  no : textF [] (k0 + 1) ((runesI rs).drop (k0 + 1)) = none
theorem TextI.own (R : Nat) (A : Option Addr) (c : Nat) (rs : List Ent) (eL eC : Int) (k0 : Nat) (w : World) (L d : Nat) {B : Nat} (hB : w.heap.size ≤ B) : OwnFrom B (fun k W => TextI R A c rs eL eC k0 w L k (k + d) W) := by
  intro k X Y row h hg hr
  obtain ⟨v, acc, hv, hrow, h1⟩ := h.row
  exact ⟨h.base.on hB hg hr, cells_on hg hr h.arg, cells_on hg hr h.res0, cells_on hg hr h.res1, v, acc, cells_on hg hr hv, owns_on hg hr hrow, h1⟩
theorem TextX.own (R : Nat) (A : Option Addr) (c : Nat) (rs : List Ent) (eL eC : Int) (k0 : Nat) (w : World) (L : Nat) {B : Nat} (hB : w.heap.size ≤ B) : OwnFrom B (fun (_ : Unit) W => TextX R A c rs eL eC k0 w L W) := by
  intro k X Y row h hg hr
  obtain ⟨j, hj⟩ := h.base
  exact ⟨⟨j, hj.on hB hg hr⟩, cells_on hg hr h.res0, cells_on hg hr h.res1, h.no⟩
def TextTells (R : Nat) (A : Option Addr) (c : Nat) (rs : List Ent) (eL eC : Int) (k0 : Nat) (w : World) (e : Ending) (w' : World) : Prop :=
  w.grownBy w' (some R) ∧ ((∃ b k A' n' c', textF [] (k0 + 1) ((runesI rs).drop (k0 + 1)) = some (b, k) ∧ b.length ≤ 64 ∧ e = .returned (.tuple #[.slice A' n' c', .int .i64 0]) ∧ w'.ownsRow w.heap.size 5 1 (.slice A' n' c') b.length (Lib.byteCells b) ∧ Rd R A c rs eL eC k w') ∨
    (∃ b k, textF [] (k0 + 1) ((runesI rs).drop (k0 + 1)) = some (b, k) ∧ 64 < b.length ∧ e = .returned (.tuple #[.slice none 0 0, .int .i64 5]) ∧ Rd R A c rs eL eC k w') ∨
    (textF [] (k0 + 1) ((runesI rs).drop (k0 + 1)) = none ∧ e = .returned (.tuple #[.slice none 0 0, .int .i64 4]) ∧ ∃ k, Rd R A c rs eL eC k w'))
theorem Base.move {R : Nat} {A : Option Addr} {c : Nat} {rs : List Ent} {eL eC : Int} {w : World} {b g j i : Nat} {W W' : World} (h : Base R A c rs eL eC w b g j W) (hg : W.grownBy W' (some R)) (hr : Rd R A c rs eL eC i W') (hb : b ≠ R ∧ b + 1 ≠ R) : Base R A c rs eL eC w b g i W' :=
  ⟨grown_trans h.grown hg, hr.blk, hr.le, (hg.block b (Array.getElem?_eq_some_iff.1 h.box1).1 (by simp; omega)).trans h.box1, (hg.block (b + 1) (Array.getElem?_eq_some_iff.1 h.box2).1 (by simp; omega)).trans h.box2⟩
theorem text_def {W : World} {D a b : Nat} {x y : Value} {o : Obj} (h : W.heap[D]? = some o) (ha : D ≠ a) (hb : D ≠ b) : ((W.setCell ⟨a, 0, none⟩ x).setCell ⟨b, 0, none⟩ y).heap[D]? = some o :=
  (Below.heap_setCell _ _ _ _ (by simpa using hb)).trans ((Below.heap_setCell _ _ _ _ (by simpa using ha)).trans h)
theorem owns_two {W : World} {a b base e k size : Nat} {v x y : Value} {xs : List Value} (h : W.ownsRow base e size v k xs) (ha : some a ≠ v.ownBlock) (hb : some b ≠ v.ownBlock) : ((W.setCell ⟨a, 0, none⟩ x).setCell ⟨b, 0, none⟩ y).ownsRow base e size v k xs :=
  (h.kept (grownBy_setCell' W a x) (.inr ha.symm)).kept (grownBy_setCell' _ b y) (.inr hb.symm)
theorem text_leave {R : Nat} {A : Option Addr} {c : Nat} {rs : List Ent} {eL eC : Int} {k0 j D : Nat} {w W : World} {x : Value} {y : Int} (h : Rd R A c rs eL eC k0 w) {b g : Nat} (hB : Base R A c rs eL eC w b g j W) (h0 : Boxed W (w.heap.size + 1) 30 x) (h1 : Boxed W (w.heap.size + 1 + 1) 38 (.int .i64 y)) (hK : W.heap[D]? = some (.deferred (some []))) (hD : w.heap.size + 1 + 1 + 1 ≤ D) {tmps : Array Value} (t2 : tmps[2]?.getD undef = .pointer (some ⟨w.heap.size + 1, 0, none⟩)) (t3 : tmps[3]?.getD undef = .pointer (some ⟨w.heap.size + 1 + 1, 0, none⟩))
    (hs : (∃ bs k A' n' c', textF [] (k0 + 1) ((runesI rs).drop (k0 + 1)) = some (bs, k) ∧ bs.length ≤ 64 ∧ (x, y) = (.slice A' n' c', 0) ∧ W.ownsRow w.heap.size 5 1 (.slice A' n' c') bs.length (Lib.byteCells bs) ∧ j = k) ∨
      (∃ bs k, textF [] (k0 + 1) ((runesI rs).drop (k0 + 1)) = some (bs, k) ∧ 64 < bs.length ∧ (x, y) = (.slice none 0 0, 5) ∧ j = k) ∨ (textF [] (k0 + 1) ((runesI rs).drop (k0 + 1)) = none ∧ (x, y) = (.slice none 0 0, 4))) :
    LeavesInM Fence.wide 9 Tryz.prog Tryz.f152 tmps (TextTells R A c rs eL eC k0 w) [] .returning (W.putObj D (.deferred none)) := by
  have hR := h.lt
  have hp : ∀ i, i ≠ D → (W.putObj D (.deferred none)).heap[i]? = W.heap[i]? := fun i hi => World.putObj_heap_other hi
  have c0 : (W.putObj D (.deferred none)).cell? ⟨w.heap.size + 1, 0, none⟩ = some x := (World.cell?_of_block (hp _ (by simp; omega))).trans h0.cell
  have c1 : (W.putObj D (.deferred none)).cell? ⟨w.heap.size + 1 + 1, 0, none⟩ = some (.int .i64 y) := (World.cell?_of_block (hp _ (by simp; omega))).trans h1.cell
  have hgD : w.grownBy (W.putObj D (.deferred none)) (some R) := grown_new hB.grown (grownBy_putObj' W D _) (fun r e => by cases e; omega)
  have hrd : Rd R A c rs eL eC j (W.putObj D (.deferred none)) := h.later hgD ((hp R (by omega)).trans hB.blk) hB.le
  rcases hs with ⟨bs, k, A', n', c', e1, e2, e3, e4, rfl⟩ | ⟨bs, k, e1, e2, e3, rfl⟩ | ⟨e1, e3⟩
  · cases e3
    refine ⟨.tuple #[.slice A' n' c', .int .i64 0], ?_, hgD, .inl ⟨bs, j, A', n', c', e1, e2, rfl, ownsRow_putObj e4 _ hK rfl, hrd⟩⟩
    simp [results, Tryz.results152, go_sem, t2, t3, c0, c1]
  · cases e3
    refine ⟨.tuple #[.slice none 0 0, .int .i64 5], ?_, hgD, .inr (.inl ⟨bs, j, e1, e2, rfl, hrd⟩)⟩
    simp [results, Tryz.results152, go_sem, t2, t3, c0, c1]
  · cases e3
    refine ⟨.tuple #[.slice none 0 0, .int .i64 4], ?_, hgD, .inr (.inr ⟨e1, rfl, j, hrd⟩)⟩
    simp [results, Tryz.results152, go_sem, t2, t3, c0, c1]
set_option maxRecDepth 100000 in
set_option maxHeartbeats 2000000 in
theorem text_any {R : Nat} {A : Option Addr} {c : Nat} {rs : List Ent} {eL eC : Int} {k0 : Nat} (w : World) (h : Rd R A c rs eL eC k0 w) (hq : runeAt rs k0 = 34) :
    Calls Tryz.prog 152 #[.pointer (some ⟨R, 0, none⟩)] w (TextTells R A c rs eL eC k0 w) := by
  obtain ⟨i0, hi, hz0, hz1, hz2⟩ := info_parts Tryz.info5
  have hR := h.lt
  have hlen := h.len
  have hk0 : k0 < rs.length := by
    apply Classical.byContradiction; intro hn
    rw [runeAt_out (by omega)] at hq; omega
  have hmx : Tryz.prog.follows .mixedOrders = true := by kernel_rfl
  have s0 : Hid (∀ w, Rd R A c rs eL eC k0 w → Calls Tryz.prog 179 #[.pointer (some ⟨R, 0, none⟩)] w fun e w' => e = .returned (.int .i32 34) ∧ w.grownBy w' (some R) ∧ Rd R A c rs eL eC (k0 + 1) w') := Lib.hid (fun w h => by rw [← onK_in hk0, ← hq]; exact step_any w h)
  have Hq := Lib.hid hq
  clear hq
  refine (callsIn_wide (n := 9)).1 ?_
  refine callsIn_of_wp_marks Tryz.func152 rfl trivial ?_ rfl
  simp only [Tryz.ntmps152, List.size_toArray, List.length_cons, List.length_nil, Nat.reduceAdd, Nat.reduceSub, Array.replicate_succ, Array.replicate_zero, List.push_toArray, List.append_toArray, List.nil_append, List.cons_append]
  have h3 := heap_three w (.cells #[.pointer (some ⟨R, 0, none⟩)] 183) (.cells #[.slice none 0 0] 30) (.cells #[.int .i64 0] 38)
  have h32 : (((w.alloc (.cells #[.pointer (some ⟨R, 0, none⟩)] 183)).alloc (.cells #[.slice none 0 0] 30)).alloc (.cells #[.int .i64 0] 38)).heap[w.heap.size + 1]? = some (.cells #[.slice none 0 0] 30) := by
    rw [Below.heap_alloc _ _ _ (by simp)]; exact (heap_two w _ _).2
  have hga : w.grownBy (((w.alloc (.cells #[.pointer (some ⟨R, 0, none⟩)] 183)).alloc (.cells #[.slice none 0 0] 30)).alloc (.cells #[.int .i64 0] 38)) none := grown_trans (grown_trans (grown_alloc _ _ _) (grown_alloc _ _ _)) (grown_alloc _ _ _)
  have hra := h.quiet hga
  gi_wp2_with fail
  refine ⟨trivial, (callsIn_wide.2 (s0.out _ hra)).mono ?_⟩
  rintro e W1 ⟨rfl, hg1, hr1⟩
  have hsz1 : w.heap.size + 1 + 1 + 1 ≤ W1.heap.size := by have := hg1.size; simpa using this
  have a1 : Boxed W1 w.heap.size 183 (.pointer (some ⟨R, 0, none⟩)) := (hg1.block _ (by simp; omega) (by simp; omega)).trans h3.1
  have a2 : Boxed W1 (w.heap.size + 1) 30 (.slice none 0 0) := (hg1.block _ (by simp) (by simp; omega)).trans h32
  have a3 : Boxed W1 (w.heap.size + 1 + 1) 38 (.int .i64 0) := (hg1.block _ (by simp) (by simp; omega)).trans h3.2
  have hgw : w.grownBy W1 (some R) := grown_trans (grown_quiet hga) hg1
  have a1c := a1.cell
  have a1d := (a1.alloc (.cells #[.slice none 0 0] 30)).cell
  clear h3 h32 hga hra
  gi_wp2_with fail
  refine ⟨trivial, (callsIn_wide.2 (while_any _ _ _)).mono ?_⟩
  rintro e w1 ⟨rfl, rfl⟩
  gi_wp2
  obtain ⟨W0, hW0⟩ : ∃ W0, ((W1.alloc (.cells #[.slice none 0 0] 30)).alloc (.cells #[.pointer (some ⟨R, 0, none⟩)] 183)).alloc (.cells #[.func (.func 180) #[] #[]] 109) = W0 := ⟨_, rfl⟩
  have hsz : W0.heap.size = W1.heap.size + 1 + 1 + 1 := by rw [← hW0]; simp
  have hg0 : W1.grownBy W0 none := by rw [← hW0]; exact grown_trans (grown_trans (grown_alloc _ _ _) (grown_alloc _ _ _)) (grown_alloc _ _ _)
  have h3 := heap_three W1 (.cells #[.slice none 0 0] 30) (.cells #[.pointer (some ⟨R, 0, none⟩)] 183) (.cells #[.func (.func 180) #[] #[]] 109)
  have hb1 : W0.heap[W1.heap.size + 1]? = some (.cells #[.pointer (some ⟨R, 0, none⟩)] 183 (0, 0)) := by
    rw [← hW0, Below.heap_alloc _ _ _ (by simp)]; exact (heap_two W1 _ _).2
  have hI0 : TextI R A c rs eL eC k0 w W1.heap.size (k0 + 1) (k0 + 1 + 0) W0 := by
    refine ⟨⟨grown_trans hgw (grown_quiet hg0), (hg0.block R (by omega) (by simp)).trans hr1.blk, hr1.le, hb1, by rw [← hW0]; exact h3.2⟩, a1.kept hg0 (by simp), a2.kept hg0 (by simp), a3.kept hg0 (by simp), .slice none 0 0, [], by rw [← hW0]; exact h3.1, World.ownsRow_nil _ _ _ _, by simp, rfl⟩
  rw [hW0]
  obtain ⟨L, hL⟩ : ∃ L, W1.heap.size = L := ⟨_, rfl⟩
  rw [hL] at hsz1 hsz hI0 ⊢
  refine wpIn_co rfl (by omega) (gf := 198) (lb := #[.pointer (some ⟨L + 1, 0, none⟩), .pointer (some ⟨L + 1 + 1, 0, none⟩)]) rfl trivial (enters_of Tryz.func198 (by kernel_rfl) rfl)
    (while_iter R A c rs eL eC (L + 1) (L + 1 + 1) 180 textB _ inText_any (enters_of Tryz.func180 (by kernel_rfl) rfl)) rfl (by omega)
    (fun k W => TextI R A c rs eL eC k0 w L k (k + 0) W) (fun k W => TextI R A c rs eL eC k0 w L k (k + 1) W) (fun cd W => cd = .ret ∧ TextX R A c rs eL eC k0 w L W)
    (TextI.own R A c rs eL eC k0 w L 0 (by omega)) (TextI.own R A c rs eL eC k0 w L 1 (by omega)) (fun cd s X Y row hs hg hr => ⟨hs.1, TextX.own R A c rs eL eC k0 w L (B := W0.heap.size) (by omega) () X Y row hs.2 hg hr⟩)
    (fun k W hI => hI.base.rd h (by omega)) (fun k W W' hI hm hg hr => ⟨hI.base.step hg hr, box_step hI.arg hg (by omega), box_step hI.res0 hg (by omega), box_step hI.res1 hg (by omega), ?rows⟩) hI0
    (fun k => { tmps := #[.pointer (some ⟨R, 0, none⟩), .pointer (some ⟨w.heap.size, 0, none⟩), .pointer (some ⟨w.heap.size + 1, 0, none⟩), .pointer (some ⟨w.heap.size + 1 + 1, 0, none⟩), .pointer (some ⟨L, 0, none⟩), .int .i32 (runeAt rs k), undef, undef, .pointer (some ⟨R, 0, none⟩), .int .i32 34, .pointer (some ⟨R, 0, none⟩), .func (.func 198) #[] #[.pointer (some ⟨L + 1, 0, none⟩), .pointer (some ⟨L + 1 + 1, 0, none⟩)], .int .i32 (runeAt rs k), undef, undef, undef, undef, undef, undef, undef, undef, undef, undef, undef, undef, undef, undef, undef, undef, undef, undef, undef, undef, undef, undef, undef, undef], defers := [] }) ?assign ?body ?done ?stop
  case rows =>
    obtain ⟨v, acc, hv, hrow, h1⟩ := hI.row
    exact ⟨v, acc, box_step hv hg (by omega), hrow.kept hg (by
      cases ho : v.ownBlock with
      | none => exact .inl rfl
      | some i => have := (hrow.lt i ho).1; exact .inr (by simp; omega)), h1⟩
  case assign =>
    intro l k W K hK
    gi_wp2
    exact hK
  case body =>
    rintro l k W hl hlr hI hm
    obtain ⟨v, acc, hv, hrow, hal, h1⟩ := hI.row
    obtain ⟨hlt, hp⟩ := more_at hm
    have hc := hv.cell
    have hf := hv.frozen
    have H1 := Lib.hid h1
    have Hm := Lib.hid hm
    clear h1 hm
    by_cases h92 : runeAt rs k = 92
    · have hwr := (hI.base.rd h (by omega)).rd
      have hac := hI.arg.cell
      have H92 := Lib.hid h92
      rw [h92]
      clear h92
      gi_wp2_with fail
      refine ⟨trivial, (CallsIn.inRound l (callsIn_wide.2 (escape_any _ hwr))).mono ?_⟩
      rintro e W2 ⟨hge, hE⟩
      have r0 := box_step hI.res0 hge (by omega)
      have r1 := box_step hI.res1 hge (by omega)
      have r2 := box_step hI.arg hge (by omega)
      have hv2 := box_step hv hge (by omega)
      have hrow2 : W2.ownsRow w.heap.size 5 1 v acc.length (Lib.byteCells acc) := hrow.kept hge (by
        cases ho : v.ownBlock with
        | none => exact .inl rfl
        | some i => have := (hrow.lt i ho).1; exact .inr (by simp; omega))
      have hk2 : KeepsFrom W0.heap.size W W2 := KeepsFrom.of_grownBy hge (fun j e => by cases e; omega)
      have hsw2 : w.heap.size ≤ W2.heap.size := Nat.le_trans hI.base.grown.size hge.size
      rcases hE with ⟨b, m, hE, rfl, hr⟩ | ⟨hE, rfl, j, hr⟩
      · have hbase := hI.base.move hge hr (by omega)
        have hm1 := escF_pos hE
        have hTB := textF_back acc Hm.out H92.out hE
        have HTB := Lib.hid hTB
        have hc2 := hv2.cell
        have hf2 := hv2.frozen
        have hsl : m ≤ rs.length := by have := hm1.2; simp [runesI] at this; omega
        clear hTB hE
        gi_wp2_with (gi_at_builtin; refine wpListIn_append_own _ rfl _ _ 30 rfl w.heap.size 5 i0 (.int .u8 0) 1 1 Tryz.underlying30 hi hz0 hz1 hz2 rfl (by decide) _ _ _ rfl (hrow2.alloc _) ⟨W2.heap.size, 0, none⟩ 1 1 [.int .u8 (b.toNat : Int)] rfl rfl (cell_one_new _ _ _) (by simp [Value.oneCell']) (by unfold maxLen; omega) (by omega) (by simp; omega) ?_; intro v' w1 hown' hgrow _; obtain ⟨g', cap', rfl⟩ := ownsRow_succ hown'; obtain ⟨hv1, hv3, hr2, hk3, hb2⟩ := hv2.appended (by decide) hrow2 hsw2 (show w.heap.size ≤ L by omega) hown' hgrow; have hc1 := hv1.cell; have hf1 := hv1.frozen)
        have hap : Appd W2 (w1.setCell ⟨L, 0, none⟩ (.slice (some ⟨g', 0, none⟩) (acc.length + 1) cap')) L v := appd_of (base := w.heap.size) (e := 5) (k := acc.length) (size := 1) (xs := Lib.byteCells acc) ((Below.refl _ W2).alloc (Nat.le_refl _) _) hgrow
        refine ⟨hk2.trans (hap.keeps hv2 hrow2 _), k + 1 + m, by omega, hap.base hrow2 hbase (by omega) hR (by omega) (by decide), hap.box hrow2 r2 (by omega) (by decide), hap.box hrow2 r0 (by omega) (by decide), hap.box hrow2 r1 (by omega) (by decide), _, acc ++ [b], hv3, by simpa [Lib.byteCells] using hr2, by simp; omega, HTB.out.symm.trans H1.out⟩
      · have hbase := hI.base.move hge hr (by omega)
        have hTB := textF_bad acc Hm.out H92.out hE
        have HTB := Lib.hid hTB
        have c0 := r0.cell
        have f0 := r0.frozen
        have c1 := r1.cell
        have f1 := r1.frozen
        clear hTB hE
        gi_wp2
        exact ⟨hk2.trans (((KeepsOthers.setCell _ _ _).trans (KeepsOthers.setCell _ _ _)).from _), rfl, ⟨_, (hbase.set hR (by omega) (by omega) _).set hR (by omega) (by omega) _⟩, Boxed.other (r0.set _) (by omega) _, Boxed.set _ (Boxed.other r1 (by omega) _), H1.out.symm.trans HTB.out⟩
    · have hne : (runeAt rs k != 92) = true := by simpa using h92
      gi_wp2
      obtain ⟨ch, hch⟩ : ∃ ch, runeAt rs k = ch := ⟨_, rfl⟩
      have hval := (h.rune_in k hlt).2
      rw [hch] at hval ⊢
      have Hch := Lib.hid hch
      clear hch
      have HP := Lib.hid (put_pos ch hval)
      have hbw : Below W.heap.size W W.drew := (Below.refl _ _).drew
      have hle4 := enc_len ch hval
      refine wpIn_region_any hmx ?_
      change wpAnyIn _ _ _ _ _ _ _ _ _ (World.drew _)
      refine wpAnyIn_ready (rs := [0, 1]) (by kernel_rfl) (by simp) ?_
      refine AllReadyIn.cons rfl (fun K hK => ?_) (AllReadyIn.cons rfl (fun K hK => ?_) AllReadyIn.nil)
      · go_simp
        refine hK _ _ ?_
        clear hK K
        refine wpAnyIn_ready (rs := [1]) (by kernel_rfl) (by simp) ?_
        refine AllReadyIn.cons rfl (fun K hK => ?_) AllReadyIn.nil
        go_simp
        refine hK _ _ ?_
        clear hK K
        refine wpAnyIn_ready (rs := [2]) (by kernel_rfl) (by simp) ?_
        refine AllReadyIn.cons rfl (fun K hK => ?_) AllReadyIn.nil
        go_simp
        refine ⟨trivial, (CallsIn.inRound l (callsIn_wide.2 (HP.out _))).mono ?_⟩
        rintro e w' ⟨A', n', c', rfl, hrow', hn0, hn4, hb'⟩
        refine hK _ _ ?_
        clear hK K
        obtain ⟨g, rfl, rfl, hglt, hcells⟩ : ∃ g, A' = some ⟨g, 0, none⟩ ∧ n' = (enc ch).length ∧ g < w'.heap.size ∧ ∀ j (hj : j < (enc ch).length), w'.cell? ⟨g, j, none⟩ = some (.int .u8 ((enc ch)[j].toNat : Int)) := by
          rcases hrow' with ⟨_, h0, _⟩ | hh
          · omega
          · exact hh
        have hb2 : Below W.heap.size W w' := hbw.trans (hb'.mono (by simp))
        have hown2 := owns_below hrow hb2
        have hv2 := box_below hv hb2
        have hsw : w.heap.size ≤ w'.heap.size := by have := hI.base.grown.size; have := hb2.size; omega
        refine wpAnyIn_ready (rs := [3]) (by kernel_rfl) (by simp) ?_
        refine AllReadyIn.cons rfl (fun K hK => ?_) AllReadyIn.nil
        refine stepIn_append rfl (.tmp 15) (.tmp 17) 30 rfl w.heap.size 5 i0 (.int .u8 0) 1 1 Tryz.underlying30 hi hz0 hz1 hz2 rfl (by decide) v acc.length _ rfl hown2 ⟨g, 0, none⟩ (enc ch).length c' (Lib.byteCells (enc ch)) rfl (by simp [Lib.byteCells]) (bytes_at hcells) (bytes_one _) (by unfold maxLen; omega) (by omega) hsw ?_
        intro v' w2 hown' hgrow
        refine hK _ _ ?_
        clear hK K
        obtain ⟨A3, c3, rfl⟩ := owns_form hown'
        have hv3 : Boxed w2 L 30 v := hv2.kept hgrow (hv2.not_row (by decide) hown2)
        have hc3 := hv3.cell
        have hf3 := hv3.frozen
        refine wpAnyIn_ready (rs := [4]) (by kernel_rfl) (by simp) ?_
        refine AllReadyIn.cons rfl (fun K hK => ?_) AllReadyIn.nil
        go_simp
        refine hK _ _ ?_
        clear hK K
        refine wpAnyIn_done (by kernel_rfl) ?_ _
        have hap : Appd W (w2.setCell ⟨L, 0, none⟩ (.slice A3 (acc.length + (enc ch).length) c3)) L v := appd_of (base := w.heap.size) (e := 5) (k := acc.length) (size := 1) (xs := Lib.byteCells acc) hb2 hgrow
        have hbx : Boxed (w2.setCell ⟨L, 0, none⟩ (.slice A3 (acc.length + (enc ch).length) c3)) L 30 (.slice A3 (acc.length + (enc ch).length) c3) := hv3.set _
        have hon2 : (w2.setCell ⟨L, 0, none⟩ (.slice A3 (acc.length + (enc ch).length) c3)).ownsRow w.heap.size 5 1 (.slice A3 (acc.length + (enc ch).length) c3) (acc ++ enc ch).length (Lib.byteCells (acc ++ enc ch)) := by
          have := hown'.kept (grownBy_setCell' w2 L (.slice A3 (acc.length + (enc ch).length) c3)) (.inr (hv3.not_row (by decide) hown').symm)
          rw [List.length_append, show Lib.byteCells (acc ++ enc ch) = Lib.byteCells acc ++ Lib.byteCells (enc ch) from by simp [Lib.byteCells]]
          exact this
        gi_wp2
        refine ⟨hap.keeps hv hrow _, k + 1, by omega, hap.base hrow hI.base (by omega) hR (by omega) (by decide), hap.box hrow hI.arg (by omega) (by decide), hap.box hrow hI.res0 (by omega) (by decide), hap.box hrow hI.res1 (by omega) (by decide), _, acc ++ enc ch, hbx, hon2, by rw [List.length_append]; omega, ?_⟩
        rw [← H1.out, textF_on acc Hm.out h92, Hch.out]
      · go_simp
        refine hK _ _ ?_
        clear hK K
        refine wpAnyIn_ready (rs := [0, 2]) (by kernel_rfl) (by simp) ?_
        refine AllReadyIn.cons rfl (fun K hK => ?_) (AllReadyIn.cons rfl (fun K hK => ?_) AllReadyIn.nil)
        · go_simp
          refine hK _ _ ?_
          clear hK K
          refine wpAnyIn_ready (rs := [2]) (by kernel_rfl) (by simp) ?_
          refine AllReadyIn.cons rfl (fun K hK => ?_) AllReadyIn.nil
          go_simp
          refine ⟨trivial, (CallsIn.inRound l (callsIn_wide.2 (HP.out _))).mono ?_⟩
          rintro e w' ⟨A', n', c', rfl, hrow', hn0, hn4, hb'⟩
          refine hK _ _ ?_
          clear hK K
          obtain ⟨g, rfl, rfl, hglt, hcells⟩ : ∃ g, A' = some ⟨g, 0, none⟩ ∧ n' = (enc ch).length ∧ g < w'.heap.size ∧ ∀ j (hj : j < (enc ch).length), w'.cell? ⟨g, j, none⟩ = some (.int .u8 ((enc ch)[j].toNat : Int)) := by
            rcases hrow' with ⟨_, h0, _⟩ | hh
            · omega
            · exact hh
          have hb2 : Below W.heap.size W w' := hbw.trans (hb'.mono (by simp))
          have hown2 := owns_below hrow hb2
          have hv2 := box_below hv hb2
          have hsw : w.heap.size ≤ w'.heap.size := by have := hI.base.grown.size; have := hb2.size; omega
          refine wpAnyIn_ready (rs := [3]) (by kernel_rfl) (by simp) ?_
          refine AllReadyIn.cons rfl (fun K hK => ?_) AllReadyIn.nil
          refine stepIn_append rfl (.tmp 15) (.tmp 17) 30 rfl w.heap.size 5 i0 (.int .u8 0) 1 1 Tryz.underlying30 hi hz0 hz1 hz2 rfl (by decide) v acc.length _ rfl hown2 ⟨g, 0, none⟩ (enc ch).length c' (Lib.byteCells (enc ch)) rfl (by simp [Lib.byteCells]) (bytes_at hcells) (bytes_one _) (by unfold maxLen; omega) (by omega) hsw ?_
          intro v' w2 hown' hgrow
          refine hK _ _ ?_
          clear hK K
          obtain ⟨A3, c3, rfl⟩ := owns_form hown'
          have hv3 : Boxed w2 L 30 v := hv2.kept hgrow (hv2.not_row (by decide) hown2)
          have hc3 := hv3.cell
          have hf3 := hv3.frozen
          refine wpAnyIn_ready (rs := [4]) (by kernel_rfl) (by simp) ?_
          refine AllReadyIn.cons rfl (fun K hK => ?_) AllReadyIn.nil
          go_simp
          refine hK _ _ ?_
          clear hK K
          refine wpAnyIn_done (by kernel_rfl) ?_ _
          have hap : Appd W (w2.setCell ⟨L, 0, none⟩ (.slice A3 (acc.length + (enc ch).length) c3)) L v := appd_of (base := w.heap.size) (e := 5) (k := acc.length) (size := 1) (xs := Lib.byteCells acc) hb2 hgrow
          have hbx : Boxed (w2.setCell ⟨L, 0, none⟩ (.slice A3 (acc.length + (enc ch).length) c3)) L 30 (.slice A3 (acc.length + (enc ch).length) c3) := hv3.set _
          have hon2 : (w2.setCell ⟨L, 0, none⟩ (.slice A3 (acc.length + (enc ch).length) c3)).ownsRow w.heap.size 5 1 (.slice A3 (acc.length + (enc ch).length) c3) (acc ++ enc ch).length (Lib.byteCells (acc ++ enc ch)) := by
            have := hown'.kept (grownBy_setCell' w2 L (.slice A3 (acc.length + (enc ch).length) c3)) (.inr (hv3.not_row (by decide) hown').symm)
            rw [List.length_append, show Lib.byteCells (acc ++ enc ch) = Lib.byteCells acc ++ Lib.byteCells (enc ch) from by simp [Lib.byteCells]]
            exact this
          gi_wp2
          refine ⟨hap.keeps hv hrow _, k + 1, by omega, hap.base hrow hI.base (by omega) hR (by omega) (by decide), hap.box hrow hI.arg (by omega) (by decide), hap.box hrow hI.res0 (by omega) (by decide), hap.box hrow hI.res1 (by omega) (by decide), _, acc ++ enc ch, hbx, hon2, by rw [List.length_append]; omega, ?_⟩
          rw [← H1.out, textF_on acc Hm.out h92, Hch.out]
        · go_simp
          refine ⟨trivial, (CallsIn.inRound l (callsIn_wide.2 (HP.out _))).mono ?_⟩
          rintro e w' ⟨A', n', c', rfl, hrow', hn0, hn4, hb'⟩
          refine hK _ _ ?_
          clear hK K
          obtain ⟨g, rfl, rfl, hglt, hcells⟩ : ∃ g, A' = some ⟨g, 0, none⟩ ∧ n' = (enc ch).length ∧ g < w'.heap.size ∧ ∀ j (hj : j < (enc ch).length), w'.cell? ⟨g, j, none⟩ = some (.int .u8 ((enc ch)[j].toNat : Int)) := by
            rcases hrow' with ⟨_, h0, _⟩ | hh
            · omega
            · exact hh
          have hb2 : Below W.heap.size W w' := hbw.trans (hb'.mono (by simp))
          have hown2 := owns_below hrow hb2
          have hv2 := box_below hv hb2
          have hsw : w.heap.size ≤ w'.heap.size := by have := hI.base.grown.size; have := hb2.size; omega
          have hc2 := hv2.cell
          refine wpAnyIn_ready (rs := [0]) (by kernel_rfl) (by simp) ?_
          refine AllReadyIn.cons rfl (fun K hK => ?_) AllReadyIn.nil
          go_simp
          refine hK _ _ ?_
          clear hK K
          refine wpAnyIn_ready (rs := [3]) (by kernel_rfl) (by simp) ?_
          refine AllReadyIn.cons rfl (fun K hK => ?_) AllReadyIn.nil
          refine stepIn_append rfl (.tmp 15) (.tmp 17) 30 rfl w.heap.size 5 i0 (.int .u8 0) 1 1 Tryz.underlying30 hi hz0 hz1 hz2 rfl (by decide) v acc.length _ rfl hown2 ⟨g, 0, none⟩ (enc ch).length c' (Lib.byteCells (enc ch)) rfl (by simp [Lib.byteCells]) (bytes_at hcells) (bytes_one _) (by unfold maxLen; omega) (by omega) hsw ?_
          intro v' w2 hown' hgrow
          refine hK _ _ ?_
          clear hK K
          obtain ⟨A3, c3, rfl⟩ := owns_form hown'
          have hv3 : Boxed w2 L 30 v := hv2.kept hgrow (hv2.not_row (by decide) hown2)
          have hc3 := hv3.cell
          have hf3 := hv3.frozen
          refine wpAnyIn_ready (rs := [4]) (by kernel_rfl) (by simp) ?_
          refine AllReadyIn.cons rfl (fun K hK => ?_) AllReadyIn.nil
          go_simp
          refine hK _ _ ?_
          clear hK K
          refine wpAnyIn_done (by kernel_rfl) ?_ _
          have hap : Appd W (w2.setCell ⟨L, 0, none⟩ (.slice A3 (acc.length + (enc ch).length) c3)) L v := appd_of (base := w.heap.size) (e := 5) (k := acc.length) (size := 1) (xs := Lib.byteCells acc) hb2 hgrow
          have hbx : Boxed (w2.setCell ⟨L, 0, none⟩ (.slice A3 (acc.length + (enc ch).length) c3)) L 30 (.slice A3 (acc.length + (enc ch).length) c3) := hv3.set _
          have hon2 : (w2.setCell ⟨L, 0, none⟩ (.slice A3 (acc.length + (enc ch).length) c3)).ownsRow w.heap.size 5 1 (.slice A3 (acc.length + (enc ch).length) c3) (acc ++ enc ch).length (Lib.byteCells (acc ++ enc ch)) := by
            have := hown'.kept (grownBy_setCell' w2 L (.slice A3 (acc.length + (enc ch).length) c3)) (.inr (hv3.not_row (by decide) hown').symm)
            rw [List.length_append, show Lib.byteCells (acc ++ enc ch) = Lib.byteCells acc ++ Lib.byteCells (enc ch) from by simp [Lib.byteCells]]
            exact this
          gi_wp2
          refine ⟨hap.keeps hv hrow _, k + 1, by omega, hap.base hrow hI.base (by omega) hR (by omega) (by decide), hap.box hrow hI.arg (by omega) (by decide), hap.box hrow hI.res0 (by omega) (by decide), hap.box hrow hI.res1 (by omega) (by decide), _, acc ++ enc ch, hbx, hon2, by rw [List.length_append]; omega, ?_⟩
          rw [← H1.out, textF_on acc Hm.out h92, Hch.out]
  case done =>
    rintro D k W hD hk hm hI hK
    obtain ⟨v, acc, hv, hrow, hal, h1⟩ := hI.row
    have hTd := textF_done acc hm
    have hwr := (hI.base.rd h (by omega)).rd
    have hac := hI.arg.cell
    have hs := step_any W hwr
    obtain ⟨ch, hch⟩ : ∃ ch, runeAt rs k = ch := ⟨_, rfl⟩
    rw [show k + 0 = k from rfl, hch] at hs
    rw [hch] at hTd
    have Hs := Lib.hid hs
    have HT := Lib.hid (hTd.symm.trans h1)
    have Hch := Lib.hid hch
    have HK := Lib.hid hK
    clear hs hTd h1 hch hK
    gi_wp2_with fail
    refine ⟨trivial, (callsIn_wide.2 Hs.out).mono ?_⟩
    rintro e W2 ⟨rfl, hge, hr⟩
    have r0 := box_step hI.res0 hge (by omega)
    have r1 := box_step hI.res1 hge (by omega)
    have hv2 := box_step hv hge (by omega)
    have hrow2 : W2.ownsRow w.heap.size 5 1 v acc.length (Lib.byteCells acc) := hrow.kept hge (by
      cases ho : v.ownBlock with
      | none => exact .inl rfl
      | some i => have := (hrow.lt i ho).1; exact .inr (by simp; omega))
    have hbase := hI.base.move hge hr (by omega)
    have HK2 := Lib.hid ((hge.block D (Array.getElem?_eq_some_iff.1 HK.out).1 (by simp; omega)).trans HK.out)
    have c0 := r0.cell
    have f0 := r0.frozen
    have c1 := r1.cell
    have f1 := r1.frozen
    have hc2 := hv2.cell
    obtain ⟨A', cc, rfl⟩ := owns_form hrow2
    by_cases h34 : ch = 34
    · subst h34
      have hkl : k < rs.length := by
        apply Classical.byContradiction; intro hn
        have := Hch.out
        rw [runeAt_out (by omega)] at this; omega
      rw [onK_in hkl] at hbase
      have HT' : Hid (textF [] (k0 + 1) ((runesI rs).drop (k0 + 1)) = some (acc, k + 1)) := Lib.hid (by rw [← HT.out]; rfl)
      by_cases h64 : 64 < acc.length
      · gi_wp2
        refine ⟨by simp, .inl ⟨_, _, rfl, run_takeDeferred (text_def HK2.out (by omega) (by omega)), ?_⟩⟩
        exact text_leave h ((hbase.set hR (by omega) (by omega) _).set hR (by omega) (by omega) _) (Boxed.other (r0.set _) (by omega) _) (Boxed.set _ (Boxed.other r1 (by omega) _)) (text_def HK2.out (by omega) (by omega)) (by omega) rfl rfl (.inr (.inl ⟨acc, k + 1, HT'.out, h64, rfl, rfl⟩))
      · gi_wp2
        refine ⟨by simp, .inl ⟨_, _, rfl, run_takeDeferred (text_def HK2.out (by omega) (by omega)), ?_⟩⟩
        exact text_leave h ((hbase.set hR (by omega) (by omega) _).set hR (by omega) (by omega) _) (Boxed.other (r0.set _) (by omega) _) (Boxed.set _ (Boxed.other r1 (by omega) _)) (text_def HK2.out (by omega) (by omega)) (by omega) rfl rfl (.inl ⟨acc, k + 1, A', _, cc, HT'.out, by omega, rfl, owns_two hrow2 (not_own hrow2 r0 (by decide)) (not_own hrow2 r1 (by decide)), rfl⟩)
    · have hne : (ch != 34) = true := by simpa using h34
      have HT' : Hid (textF [] (k0 + 1) ((runesI rs).drop (k0 + 1)) = none) := Lib.hid (by rw [← HT.out, if_neg h34])
      gi_wp2
      refine ⟨by simp, .inl ⟨_, _, rfl, run_takeDeferred (text_def HK2.out (by omega) (by omega)), ?_⟩⟩
      exact text_leave h ((hbase.set hR (by omega) (by omega) _).set hR (by omega) (by omega) _) (Boxed.other (r0.set _) (by omega) _) (Boxed.set _ (Boxed.other r1 (by omega) _)) (text_def HK2.out (by omega) (by omega)) (by omega) rfl rfl (.inr (.inr ⟨HT'.out, rfl⟩))
  case stop =>
    rintro D c' W hD ⟨rfl, hx⟩ hK
    obtain ⟨j, hj⟩ := hx.base
    gi_wp2
    refine ⟨by simp, .inl ⟨_, _, rfl, run_takeDeferred hK, ?_⟩⟩
    exact text_leave h hj hx.res0 hx.res1 hK (by omega) rfl rfl (.inr (.inr ⟨hx.no, rfl⟩))
end Go.Proofs.YtjhnmikciejekaaGreat
