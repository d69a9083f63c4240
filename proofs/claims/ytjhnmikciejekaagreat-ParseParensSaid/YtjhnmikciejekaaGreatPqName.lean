/-
  Texts of one proof, in their order. No condition.
-/
import Derived.Maps.AppendAt
import Derived.Laws.Cover4
import Derived.Test.YtjhnmikciejekaaGreatPqWhile
import Derived.Test.YtjhnmikciejekaaGreatPqSpec
namespace Go.Proofs.YtjhnmikciejekaaGreat
open Go.ChangeShapes Go.WideShapes Go.ChangeAt Go.RowKit Go.Shelf
attribute [local go_sem] Oper.semAt_some
set_option linter.unusedVariables false
theorem Tryz.info21 : (Tryz.prog.info? 21).map (fun i => (i.zero, i.size, i.bytes)) = some (some (.int .i32 0), 1, 4) := by kernel_rfl
theorem utf8_enc {r : Int} (h : validB r = true) : (Utf8.encode r).data.toList = enc r := by
  rw [enc_yes h]
  rw [validB_iff] at h
  have hv : Utf8.valid r = true := by simp [Utf8.valid]; omega
  obtain ⟨n, rfl⟩ : ∃ n : Nat, r = n := ⟨r.toNat, by omega⟩
  unfold Utf8.encode
  simp only [hv, if_true, Int.toNat_natCast]
  by_cases c0 : n < 128
  · rw [if_pos c0, encodeRune_of (Lib.encodeRuneZ_one (by omega) (by omega))]; simp
  by_cases c1 : n < 2048
  · rw [if_neg c0, if_pos c1, encodeRune_of (Lib.encodeRuneZ_two (by omega) (by omega))]
    have e0 : (192 + (n : Int) / 64).toNat = 192 + n / 64 := by omega
    have e1 : (128 + (n : Int) % 64).toNat = 128 + n % 64 := by omega
    simp [e0, e1]
  by_cases c2 : n < 65536
  · rw [if_neg c0, if_neg c1, if_pos c2, encodeRune_of (Lib.encodeRuneZ_three (by omega))]
    have e0 : (224 + (n : Int) / 4096).toNat = 224 + n / 4096 := by omega
    have e1 : (128 + (n : Int) / 64 % 64).toNat = 128 + n / 64 % 64 := by omega
    have e2 : (128 + (n : Int) % 64).toNat = 128 + n % 64 := by omega
    simp [e0, e1, e2]
  · rw [if_neg c0, if_neg c1, if_neg c2, encodeRune_of (Lib.encodeRuneZ_four (by omega) (by omega))]
    have e0 : (240 + (n : Int) / 262144).toNat = 240 + n / 262144 := by omega
    have e3 : (128 + (n : Int) / 4096 % 64).toNat = 128 + n / 4096 % 64 := by omega
    have e1 : (128 + (n : Int) / 64 % 64).toNat = 128 + n / 64 % 64 := by omega
    have e2 : (128 + (n : Int) % 64).toNat = 128 + n % 64 := by omega
    simp [e0, e1, e2, e3]
theorem foldl_enc : ∀ (ns : List Int) (s : ByteArray), (∀ r ∈ ns, validB r = true) → (ns.foldl (fun r n => r ++ Utf8.encode n) s).data.toList = s.data.toList ++ ns.flatMap enc := by
  intro ns
  induction ns with
  | nil => intro s _; simp
  | cons n ns ih =>
    intro s h
    rw [List.foldl_cons, ih _ (fun r hr => h r (List.mem_cons_of_mem _ hr)), ByteArray.data_append, Array.toList_append, utf8_enc (h n (List.mem_cons_self ..)), List.flatMap_cons, List.append_assoc]
theorem runes_enc (ns : List Int) (h : ∀ r ∈ ns, validB r = true) : runesBytes ns = ⟨(ns.flatMap enc).toArray⟩ := by
  have := foldl_enc ns ByteArray.empty h
  have e : (runesBytes ns).data = (ns.flatMap enc).toArray := by
    apply Array.toList_inj.1
    rw [show (runesBytes ns).data.toList = _ from this]; simp
  calc runesBytes ns = ⟨(runesBytes ns).data⟩ := rfl
    _ = _ := by rw [e]
theorem conv_runes {W : World} {B : Nat} {v : Value} {acc : List Int} (h : W.ownsRow B 21 1 v acc.length (acc.map (Value.int .i32))) (hv : ∀ r ∈ acc, validB r = true) : (convert 202 9 v).run Tryz.prog W = .ok (.string ⟨(acc.flatMap enc).toArray⟩) W := by
  rw [← runes_enc acc hv]
  rcases h.2 with ⟨rfl, h0⟩ | ⟨g, cap, cur, rfl, hB, hg, hc, _⟩
  · rw [List.eq_nil_of_length_eq_zero h0]
    exact run_convert_runes_nil W 202 9 21 0 0 Tryz.underlying202 Tryz.underlying21 Tryz.underlying9
  · have := run_convert_runes (P := Tryz.prog) W 202 9 21 ⟨g, 0, none⟩ acc.length cap acc (Nat.le_refl _) Tryz.underlying202 Tryz.underlying21 Tryz.underlying9 (fun j hj => by
      refine h.cells (g := g) rfl j _ ?_
      simp [hj])
    rw [List.take_length] at this
    exact this
section
variable {R : Nat} {A : Option Addr} {c : Nat} {rs : List Ent} {eL eC : Int} {k j : Nat} {w W W' : World}
theorem Rd.later (h : Rd R A c rs eL eC k w) (hg : w.grownBy W (some R)) (hb : W.heap[R]? = some (.cells #[.slice A rs.length c, .int .i64 (j : Int), .int .i64 eL, .int .i64 eC] 149 (0, 0))) (hj : j ≤ rs.length) : Rd R A c rs eL eC j W :=
  ⟨hb, h.row.grown (.inr rfl) hg, hj, h.len, h.ok⟩
theorem grown_trans {X Y Z : World} {row : Option Nat} (h : X.grownBy Y row) (k : Y.grownBy Z row) : X.grownBy Z row :=
  ⟨k.os.trans h.os, k.tape.trans h.tape, k.output.trans h.output, Nat.le_trans h.size k.size, fun i hi hn => (k.block i (Nat.lt_of_lt_of_le hi h.size) hn).trans (h.block i hi hn)⟩
theorem grown_quiet {X Y : World} {row : Option Nat} (h : X.grownBy Y none) : X.grownBy Y row :=
  ⟨h.os, h.tape, h.output, h.size, fun i hi _ => h.block i hi (by simp)⟩
theorem grown_new {X Y Z : World} {row row' : Option Nat} (h : X.grownBy Y row) (k : Y.grownBy Z row') (hr : ∀ r, row' = some r → X.heap.size ≤ r) : X.grownBy Z row :=
  ⟨k.os.trans h.os, k.tape.trans h.tape, k.output.trans h.output, Nat.le_trans h.size k.size, fun i hi hn => (k.block i (Nat.lt_of_lt_of_le hi h.size) (fun e => by have := hr i e.symm; omega)).trans (h.block i hi hn)⟩
theorem grown_below' {X Y Z : World} {row : Option Nat} (h : X.grownBy Y row) (k : Below X.heap.size Y Z) : X.grownBy Z row :=
  ⟨k.os.trans h.os, k.tape.trans h.tape, k.output.trans h.output, Nat.le_trans h.size k.size, fun i hi hn => (k.block i hi).trans (h.block i hi hn)⟩
end
theorem grown_alloc (w : World) (o : Obj) (row : Option Nat) : w.grownBy (w.alloc o) row := World.grownBy_alloc w o row
theorem appended_block {W w1 : World} {n₀ B : Nat} {e : TypeId} {size : Nat} {v v' : Value} {k : Nat} {xs : List Value} {tmp : Obj} (hrow : W.ownsRow n₀ e size v k xs) (hgrow : (W.alloc tmp).grownBy w1 v.ownBlock) {i : Nat} (hi : i < W.heap.size) (hB : i ≠ B) (hv : some i ≠ v.ownBlock) :
    (w1.setCell ⟨B, 0, none⟩ v').heap[i]? = W.heap[i]? := by
  rw [Below.heap_setCell _ _ _ _ (by simpa using hB), hgrow.block i (by simp; omega) hv, Below.heap_alloc _ _ _ hi]
theorem not_own {W : World} {n₀ i : Nat} {e t : TypeId} {size : Nat} {v : Value} {k : Nat} {xs : List Value} (hrow : W.ownsRow n₀ e size v k xs) {cs : Array Value} {f : Nat × Nat} (h : W.heap[i]? = some (.cells cs t f)) (hte : t ≠ e) : some i ≠ v.ownBlock := by
  rcases hrow.2 with ⟨rfl, _⟩ | ⟨g, cap, cur, rfl, _, hgb, _⟩
  · simp [Value.ownBlock]
  · intro e'
    obtain rfl : i = g := by simpa [Value.ownBlock] using e'
    have := h.symm.trans hgb
    simp at this
    exact hte this.2.1
theorem cells_on {B : Nat} {X Y : World} {row : Option Nat} (hg : X.grownBy Y row) (hr : ∀ r, row = some r → B ≤ r ∧ ∃ o : Obj, X.heap[r]? = some o ∧ o.isCells = false) {i : Nat} {cs : Array Value} {t : TypeId} {f : Nat × Nat} (h : X.heap[i]? = some (.cells cs t f)) : Y.heap[i]? = some (.cells cs t f) :=
  (hg.block i (Array.getElem?_eq_some_iff.1 h).1 (fun e => by
    obtain ⟨_, o', ho', hc'⟩ := hr i e.symm
    rw [h] at ho'; cases ho'; cases hc')).trans h
theorem owns_on {B : Nat} {X Y : World} {row : Option Nat} (hg : X.grownBy Y row) (hr : ∀ r, row = some r → B ≤ r ∧ ∃ o : Obj, X.heap[r]? = some o ∧ o.isCells = false) {base : Nat} {e : TypeId} {size : Nat} {v : Value} {k : Nat} {xs : List Value} (h : X.ownsRow base e size v k xs) : Y.ownsRow base e size v k xs := by
  refine h.kept hg ?_
  rcases h.2 with ⟨rfl, _⟩ | ⟨g, cap, cur, rfl, _, hgb, _⟩
  · exact .inl rfl
  · refine .inr fun e' => ?_
    obtain ⟨_, o, ho, hc⟩ := hr g (by simpa [Value.ownBlock] using e'.symm)
    rw [hgb] at ho; cases ho; cases hc
structure Base (R : Nat) (A : Option Addr) (c : Nat) (rs : List Ent) (eL eC : Int) (w : World) (b g j : Nat) (W : World) : Prop where
  grown : w.grownBy W (some R)
  blk : W.heap[R]? = some (.cells #[.slice A rs.length c, .int .i64 (j : Int), .int .i64 eL, .int .i64 eC] 149 (0, 0))
  le : j ≤ rs.length
  box1 : W.heap[b]? = some (.cells #[.pointer (some ⟨R, 0, none⟩)] 183 (0, 0))
  box2 : W.heap[b + 1]? = some (.cells #[.func (.func g) #[] #[]] 109 (0, 0))
section
variable {R : Nat} {A : Option Addr} {c : Nat} {rs : List Ent} {eL eC : Int} {w : World} {b g j k0 : Nat} {W W' : World}
theorem Base.rd (h : Base R A c rs eL eC w b g j W) (h0 : Rd R A c rs eL eC k0 w) (hb : w.heap.size ≤ b) : WRd R A c rs eL eC b (b + 1) g j W :=
  ⟨h0.later h.grown h.blk h.le, h.box1, h.box2, by have := h0.lt; omega, by have := h0.lt; omega⟩
theorem Base.on {B : Nat} {row : Option Nat} (h : Base R A c rs eL eC w b g j W) (hB : w.heap.size ≤ B) (hg : W.grownBy W' row) (hr : ∀ r, row = some r → B ≤ r ∧ ∃ o : Obj, W.heap[r]? = some o ∧ o.isCells = false) : Base R A c rs eL eC w b g j W' :=
  ⟨grown_new h.grown hg (fun r e => by have := (hr r e).1; omega), cells_on hg hr h.blk, h.le, cells_on hg hr h.box1, cells_on hg hr h.box2⟩
theorem Base.step (h : Base R A c rs eL eC w b g j W) (hg : W.grownBy W' (some R)) (hr : WRd R A c rs eL eC b (b + 1) g (j + 1) W') : Base R A c rs eL eC w b g (j + 1) W' :=
  ⟨grown_trans h.grown hg, hr.rd.blk, hr.rd.le, hr.box1, hr.box2⟩
end
structure NameI (R : Nat) (A : Option Addr) (c : Nat) (rs : List Ent) (eL eC : Int) (k0 : Nat) (w : World) (k j : Nat) (W : World) : Prop where
  base : Base R A c rs eL eC w (w.heap.size + 1) 177 j W
  row : ∃ v acc, Boxed W w.heap.size 202 v ∧ W.ownsRow w.heap.size 21 1 v acc.length (acc.map (Value.int .i32)) ∧ acc ++ namB ((runesI rs).drop k) = namB ((runesI rs).drop k0) ∧ k = k0 + acc.length
theorem NameI.own (R : Nat) (A : Option Addr) (c : Nat) (rs : List Ent) (eL eC : Int) (k0 : Nat) (w : World) (d : Nat) {B : Nat} (hB : w.heap.size ≤ B) : OwnFrom B (fun k W => NameI R A c rs eL eC k0 w k (k + d) W) := by
  intro k X Y row h hg hr
  obtain ⟨v, acc, hv, hrow, h1, h2⟩ := h.row
  exact ⟨h.base.on hB hg hr, v, acc, cells_on hg hr hv, owns_on hg hr hrow, h1, h2⟩
theorem namB_cons {c : Int} {t : List Int} (h : nameB c = true) : namB (c :: t) = c :: namB t := by simp [namB, h]
theorem namB_no {c : Int} {t : List Int} (h : nameB c = false) : namB (c :: t) = [] := by simp [namB, h]
theorem more_at {rs : List Ent} {p : Int → Bool} {k : Nat} (h : moreB rs p k = true) : k < rs.length ∧ p (runeAt rs k) = true := by simpa [moreB] using h
theorem namB_done {rs : List Ent} {k : Nat} (h : moreB rs nameB k = false) : namB ((runesI rs).drop k) = [] := by
  by_cases hk : k < rs.length
  · rw [drop_at hk]
    exact namB_no (by simpa [moreB, hk] using h)
  · rw [drop_end (by omega)]; rfl
theorem namB_len (rs : List Ent) (k : Nat) : (namB ((runesI rs).drop k)).length ≤ rs.length - k := by
  have h := (List.takeWhile_prefix (l := (runesI rs).drop k) nameB).length_le
  simp [runesI] at h
  exact h
theorem namB_ok {rs : List Ent} (h : ∀ e ∈ rs, validB e.1 = true) (k : Nat) : ∀ r ∈ namB ((runesI rs).drop k), validB r = true := by
  intro r hr
  have h1 := (List.takeWhile_prefix (l := (runesI rs).drop k) nameB).subset hr
  have h2 := List.drop_subset _ _ h1
  simp only [runesI, List.mem_map] at h2
  obtain ⟨e, he, rfl⟩ := h2
  exact h e he
def nameT (l : List Int) : List UInt8 := if 24 < (namB l).length then [] else (namB l).flatMap enc
def nameE (l : List Int) : Int := if 24 < (namB l).length then 5 else 0
set_option maxRecDepth 100000 in
set_option maxHeartbeats 2000000 in
theorem name_any {R : Nat} {A : Option Addr} {c : Nat} {rs : List Ent} {eL eC : Int} {k0 : Nat} (w : World) (h : Rd R A c rs eL eC k0 w) :
    Calls Tryz.prog 148 #[.pointer (some ⟨R, 0, none⟩)] w fun e w' => e = .returned (.tuple #[.string ⟨(nameT ((runesI rs).drop k0)).toArray⟩, .int .i64 (nameE ((runesI rs).drop k0))]) ∧ w.grownBy w' (some R) ∧ Rd R A c rs eL eC (k0 + (namB ((runesI rs).drop k0)).length) w' := by
  obtain ⟨i0, hi, hz0, hz1, hz2⟩ := info_parts Tryz.info21
  have hR := h.lt
  have hlen := h.len
  refine (callsIn_wide (n := 9)).1 ?_
  refine callsIn_of_wp_marks Tryz.func148 rfl trivial ?_ rfl
  simp only [Tryz.ntmps148, List.size_toArray, List.length_cons, List.length_nil, Nat.reduceAdd, Nat.reduceSub, Array.replicate_succ, Array.replicate_zero, List.push_toArray, List.append_toArray, List.nil_append, List.cons_append]
  gi_wp2_with fail
  refine ⟨trivial, (callsIn_wide.2 (while_any _ _ _)).mono ?_⟩
  rintro e w1 ⟨rfl, rfl⟩
  gi_wp2
  obtain ⟨W0, hW0⟩ : ∃ W0, ((w.alloc (.cells #[.slice none 0 0] 202)).alloc (.cells #[.pointer (some ⟨R, 0, none⟩)] 183)).alloc (.cells #[.func (.func 177) #[] #[]] 109) = W0 := ⟨_, rfl⟩
  have hsz : W0.heap.size = w.heap.size + 1 + 1 + 1 := by rw [← hW0]; simp
  have hg0 : w.grownBy W0 (some R) := by rw [← hW0]; exact grown_trans (grown_trans (grown_alloc _ _ _) (grown_alloc _ _ _)) (grown_alloc _ _ _)
  have h3 := heap_three w (.cells #[.slice none 0 0] 202) (.cells #[.pointer (some ⟨R, 0, none⟩)] 183) (.cells #[.func (.func 177) #[] #[]] 109)
  have hb1 : W0.heap[w.heap.size + 1]? = some (.cells #[.pointer (some ⟨R, 0, none⟩)] 183 (0, 0)) := by
    rw [← hW0, Below.heap_alloc _ _ _ (by simp)]; exact (heap_two w _ _).2
  have hI0 : NameI R A c rs eL eC k0 w k0 (k0 + 0) W0 := by
    refine ⟨⟨hg0, ?_, h.le, hb1, by rw [← hW0]; exact h3.2⟩, .slice none 0 0, [], by rw [← hW0]; exact h3.1, World.ownsRow_nil _ _ _ _, rfl, rfl⟩
    rw [← hW0, Below.heap_alloc _ _ _ (by simp; omega), Below.heap_alloc _ _ _ (by simp; omega), Below.heap_alloc _ _ _ (by omega)]
    exact h.blk
  rw [hW0]
  refine wpIn_co rfl (by omega) (gf := 198) (lb := #[.pointer (some ⟨w.heap.size + 1, 0, none⟩), .pointer (some ⟨w.heap.size + 1 + 1, 0, none⟩)]) rfl trivial (enters_of Tryz.func198 (by kernel_rfl) rfl)
    (while_iter R A c rs eL eC (w.heap.size + 1) (w.heap.size + 1 + 1) 177 nameB _ inName_any (enters_of Tryz.func177 (by kernel_rfl) rfl)) rfl (by omega)
    (fun k W => NameI R A c rs eL eC k0 w k (k + 0) W) (fun k W => NameI R A c rs eL eC k0 w k (k + 1) W) (fun _ _ => False)
    (NameI.own R A c rs eL eC k0 w 0 (by omega)) (NameI.own R A c rs eL eC k0 w 1 (by omega)) (fun _ _ _ _ _ hs _ _ => hs)
    (fun k W hI => hI.base.rd h (by omega)) (fun k W W' hI hm hg hr => ⟨hI.base.step hg hr, ?rows⟩) hI0
    (fun k => { tmps := #[.pointer (some ⟨R, 0, none⟩), undef, .string ⟨#[]⟩, .int .i64 0, .pointer (some ⟨w.heap.size, 0, none⟩), .int .i32 (runeAt rs k), .pointer (some ⟨R, 0, none⟩), .func (.func 198) #[] #[.pointer (some ⟨w.heap.size + 1, 0, none⟩), .pointer (some ⟨w.heap.size + 1 + 1, 0, none⟩)], .int .i32 (runeAt rs k), undef, undef, undef, undef, undef, undef, undef, undef, undef], defers := [] }) ?assign ?body ?done ?stop
  case rows =>
    obtain ⟨v, acc, hv, hrow, h1, h2⟩ := hI.row
    exact ⟨v, acc, hv.kept hg (by simp; omega), hrow.kept hg (by
      cases ho : v.ownBlock with
      | none => exact .inl rfl
      | some i => have := (hrow.lt i ho).1; exact .inr (by simp; omega)), h1, h2⟩
  case assign =>
    intro l k W K hK
    gi_wp2
    exact hK
  case body =>
    rintro l k W hl hlr hI hm
    obtain ⟨v, acc, hv, hrow, h1, h2⟩ := hI.row
    obtain ⟨hlt, hp⟩ := more_at hm
    have hc := hv.cell
    have hf := hv.frozen
    have hsw : w.heap.size ≤ W.heap.size := hI.base.grown.size
    have hnl := namB_len rs k0
    have hal : acc.length ≤ rs.length := by
      have := congrArg List.length h1
      simp at this; omega
    have H1 := Lib.hid h1
    have H2 := Lib.hid h2
    clear h1 h2
    gi_wp2_with (gi_at_builtin; refine wpListIn_append_own _ rfl _ _ 202 rfl w.heap.size 21 i0 (.int .i32 0) 1 4 Tryz.underlying202 hi hz0 hz1 hz2 rfl (by decide) _ _ _ rfl (hrow.alloc _) ⟨W.heap.size, 0, none⟩ 1 1 [.int .i32 (runeAt rs k)] rfl rfl (cell_one_new _ _ _) (by simp [Value.oneCell']) (by unfold maxLen; omega) (by omega) (by simp; omega) ?_; intro v' w1 hown' hgrow _; obtain ⟨g', cap', rfl⟩ := ownsRow_succ hown'; obtain ⟨hv1, hv2, hr2, hk2, hb2⟩ := hv.appended (by decide) hrow hsw (Nat.le_refl _) hown' hgrow; have hc1 := hv1.cell; have hf1 := hv1.frozen)
    have hdr := drop_at hlt
    refine ⟨hk2.from _, k + 1, by omega, ⟨grown_below' hI.base.grown hb2, (hb2.block R hR).trans hI.base.blk, hI.base.le, ?_, ?_⟩, _, acc ++ [runeAt rs k], hv2, by simpa using hr2, ?_, by have := H2.out; simp; omega⟩
    · exact (appended_block hrow hgrow (Array.getElem?_eq_some_iff.1 hI.base.box1).1 (by omega) (not_own hrow hI.base.box1 (by decide))).trans hI.base.box1
    · exact (appended_block hrow hgrow (Array.getElem?_eq_some_iff.1 hI.base.box2).1 (by omega) (not_own hrow hI.base.box2 (by decide))).trans hI.base.box2
    · rw [← H1.out, hdr, namB_cons hp]; simp
  case done =>
    rintro D k W hD hk hm hI hK
    obtain ⟨v, acc, hv, hrow, h1, h2⟩ := hI.row
    rw [namB_done hm, List.append_nil] at h1
    have hval := namB_ok h.ok k0
    have hnl := namB_len rs k0
    rw [← h1] at hval hnl
    have hcv := conv_runes hrow hval
    have hc := hv.cell
    have hle := hI.base.le
    have hgD : w.grownBy (W.putObj D (.deferred none)) (some R) := grown_new hI.base.grown (grownBy_putObj' W D _) (fun r e => by cases e; omega)
    have hrd : Rd R A c rs eL eC (k0 + acc.length) (W.putObj D (.deferred none)) := by
      rw [← h2]
      exact h.later hgD ((World.putObj_heap_other (by omega)).trans hI.base.blk) hle
    have hT : nameT ((runesI rs).drop k0) = if 24 < acc.length then [] else acc.flatMap enc := by rw [nameT, ← h1]
    have hE : nameE ((runesI rs).drop k0) = if 24 < acc.length then 5 else 0 := by rw [nameE, ← h1]
    rw [h1] at hrd
    have HT := Lib.hid hT
    have HE := Lib.hid hE
    have Hrd := Lib.hid hrd
    have HgD := Lib.hid hgD
    have HK := Lib.hid hK
    obtain ⟨A', cc, rfl⟩ := owns_form hrow
    clear hT hE h1 h2 hrd hgD hK
    by_cases h24 : 24 < acc.length
    · gi_wp2
      refine ⟨by simp, .inl ⟨_, _, rfl, run_takeDeferred HK.out, ?_⟩⟩
      exact ⟨_, results_tmp2 rfl _ _ _, by rw [HT.out, HE.out, if_pos h24, if_pos h24]; rfl, HgD.out, Hrd.out⟩
    · gi_wp2
      refine ⟨by simp, .inl ⟨_, _, rfl, run_takeDeferred HK.out, ?_⟩⟩
      exact ⟨_, results_tmp2 rfl _ _ _, by rw [HT.out, HE.out, if_neg h24, if_neg h24]; rfl, HgD.out, Hrd.out⟩
  case stop =>
    rintro D c' W _ hx _
    exact hx.elim
end Go.Proofs.YtjhnmikciejekaaGreat
