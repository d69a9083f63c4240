/-
  Texts of one proof, in their order. No condition.
-/
import Derived.Test.YtjhnmikciejekaaGreatPqPkg
set_option linter.unusedSectionVars false
set_option linter.unusedSimpArgs false
set_option linter.unusedVariables false
namespace Go.Proofs.YtjhnmikciejekaaGreat.Deep
open Go.RowKit Go.ChangeShapes Go.WideShapes Go.ChangeAt
set_option linter.unusedVariables false
set_option linter.unusedSimpArgs false
section
variable {P : Program} {G G' : Nat → Nat} {m m' : Nat → Pl} {w w' : World}
structure Aft (R : Nat) (G : Nat → Nat) (w : World) (G' : Nat → Nat) (w' : World) : Prop where
  os : w'.os = w.os
  tape : w'.tape = w.tape
  output : w'.output = w.output
  size : w.heap.size ≤ w'.heap.size
  rest : ∀ k, k < w.heap.size → k ≠ R → w'.heap[k]? = w.heap[k]? ∧ G' k = G k
  old : ∀ g, G' g ≠ 0 → g < w'.heap.size
theorem Aft.below {R : Nat} (h : Aft R G w G' w') {B : Nat} (hB : B ≤ w.heap.size) (hR : B ≤ R) : Below B w w' := ⟨h.os, h.tape, h.output, h.size, fun k hk => (h.rest k (by omega) (by omega)).1⟩
theorem off_hs {h : Heap} (k : HS P G m w h) {A : Nat} (hA : G A = 0) (hAo : ∀ b, b < h.length → (m b).at' ≠ A) (hh : ∀ g, g ≠ A → w'.heap[g]? = w.heap[g]?) (hsz : w'.heap.size = w.heap.size) {ca cb : Array Value} {T : TypeId}
    (h1 : w.heap[A]? = some (.cells ca T (0, 0))) (h2 : w'.heap[A]? = some (.cells cb T (0, 0))) (h3 : cb.size = ca.size) : HS P G m w' h ∧ Keeps G m w h.length G m w' := by
  have ks : Keeps G m w h.length G m w' := by
    refine ⟨fun _ => Nat.le_refl _, fun g o ho => ?_, fun g e N hs => ?_, fun _ _ => rfl⟩
    · have : g ≠ A := fun he => by rw [he, hA] at ho; exact absurd ho (Nat.not_lt_zero _)
      exact cell_block o (hh g this)
    · by_cases he : g = A
      · subst he
        obtain ⟨cs, q1, q2⟩ := hs
        rw [h1] at q1
        injection q1 with q1
        injection q1 with q3 q4 q5
        refine ⟨cb.toList, by rw [h2, q4], ?_⟩
        rw [Array.length_toList, h3, q3]; simpa using q2
      · exact hs.block (hh g he)
  exact ⟨⟨fun b hb => (k.blk b hb).keep ks (Nat.le_refl _) (fun _ => ⟨hh _ (hAo b hb), rfl⟩), k.inj, fun g hg => by rw [hsz]; exact k.old g hg⟩, ks⟩
theorem off_keeps {h : Heap} (hA : ∀ g, w'.heap[g]? = w.heap[g]? ∨ (G g = 0 ∧ ∃ ca cb T, w.heap[g]? = some (.cells ca T (0, 0)) ∧ w'.heap[g]? = some (.cells cb T (0, 0)) ∧ cb.size = ca.size)) (n : Nat) : Keeps G m w n G m w' := by
  refine ⟨fun _ => Nat.le_refl _, fun g o ho => ?_, fun g e N hs => ?_, fun _ _ => rfl⟩
  · rcases hA g with h | ⟨h, _⟩
    · exact cell_block o h
    · rw [h] at ho; exact absurd ho (Nat.not_lt_zero _)
  · rcases hA g with h | ⟨_, ca, cb, T, h1, h2, h3⟩
    · exact hs.block h
    · obtain ⟨cs, q1, q2⟩ := hs
      rw [h1] at q1
      injection q1 with q1
      injection q1 with q3 q4 q5
      refine ⟨cb.toList, by rw [h2, q4], ?_⟩
      rw [Array.length_toList, h3, q3]; simpa using q2
theorem rep_agg_out {n : Nat} {v : Value} {cs : List PV} (h : Rep G m w n v (.agg cs)) : ∃ vs : List Value, v = .agg vs.toArray ∧ vs.length = cs.length ∧ ∀ i, i < cs.length → Rep G m w n (vs.getD i undef) (cs.getD i .any) := by
  cases h with
  | agg n vs cs hl hr => exact ⟨vs, rfl, hl, hr⟩
theorem caught_below {A B : Nat} {T : TypeId} {z : Array Value} {e li co : Int} {w0 : World} (h : Caught w w' A B T z e li co) (hb : Below w0.heap.size w0 w) (hA : w0.heap.size ≤ A) (hB : w0.heap.size ≤ B) : Below w0.heap.size w0 w' :=
  ⟨h.os.trans hb.os, h.tape.trans hb.tape, h.output.trans hb.output, Nat.le_trans hb.size h.size, fun k hk => (h.keep k (Nat.lt_of_lt_of_le hk hb.size) (by omega) (by omega)).trans (hb.block k hk)⟩
theorem two_below {w0 : World} (hb : Below w0.heap.size w0 w) (h : w'.os = w.os ∧ w'.tape = w.tape ∧ w'.output = w.output ∧ w'.heap.size = w.heap.size ∧ ∀ k, k < w0.heap.size → w'.heap[k]? = w.heap[k]?) : Below w0.heap.size w0 w' :=
  ⟨h.1.trans hb.os, h.2.1.trans hb.tape, h.2.2.1.trans hb.output, by rw [h.2.2.2.1]; exact hb.size, fun k hk => (h.2.2.2.2 k hk).trans (hb.block k hk)⟩
theorem goes_of_below (hS : HS P G m w []) (hb : Below w.heap.size w w') (hG : ∀ k, k < w.heap.size → G' k = G k) : Goes G m w [] G' m' w' [] := by
  refine ⟨hb.os, hb.tape, hb.output, hb.size, Nat.le_refl _, fun k => ?_, fun k o ho => ?_, fun k e N hsh => hsh.block (hb.block k hsh.lt), fun b hb => absurd hb (Nat.not_lt_zero _), fun b hb => absurd hb (Nat.not_lt_zero _), fun k hk _ => ⟨hb.block k hk, hG k hk⟩, fun b _ hb => absurd hb (Nat.not_lt_zero _)⟩
  · by_cases hk : k < w.heap.size
    · rw [hG k hk]; exact Nat.le_refl _
    · have : G k = 0 := by
        apply Classical.byContradiction
        intro hn
        exact hk (hS.old k hn)
      omega
  · exact hb.cell (p := ⟨k, o, none⟩) (hS.old k (by omega))
theorem rep_two_out {n : Nat} {v : Value} {p q : PV} (h : Rep G m w n v (.tup [p, q])) : ∃ a b, v = .tuple #[a, b] ∧ Rep G m w n a p ∧ Rep G m w n b q := by
  cases h with
  | tup n vs cs hl hr =>
    match vs, hl with
    | [a, b], _ => exact ⟨a, b, rfl, hr 0 (by simp), hr 1 (by simp)⟩
theorem rep_flt_out {n : Nat} {v : Value} {f : Flt} (h : Rep G m w n v (fltP f)) : v = .agg #[.int .i64 f.e, .int .i64 f.li, .int .i64 f.co] := by
  cases h with
  | agg n vs cs hl hr =>
    match vs, hl with
    | [a, b, c], _ =>
      have h0 := (hr 0 (by simp)).con_eq
      have h1 := (hr 1 (by simp)).con_eq
      have h2 := (hr 2 (by simp)).con_eq
      simp at h0 h1 h2
      simp [h0, h1, h2]
theorem rep_sl_out {n : Nat} {v : Value} {xs : List (List PV)} (h : Rep G m w n v (.sl xs)) : ∃ a k c, v = .slice a k c := by
  cases h with
  | sl n a c sz xs F hc hm hz ha hr => exact ⟨_, _, _, rfl⟩
end
theorem face_fin {P : Program} {G G' : Nat → Nat} {m m' : Nat → Pl} {w W : World} {v : Value} {r r0 : PV} (hS : HS P G m w []) (hb : Below w.heap.size w W) (hG : ∀ k, k < w.heap.size → G' k = G k) (hold : ∀ g, G' g ≠ 0 → g < W.heap.size) (hr : Rep G' m' W 0 v r) (hq : r = r0) :
    ∃ v' r' h' G' m', Ending.returned v = Ending.returned v' ∧ (h' = [] ∧ r' = r0) ∧ Rep G' m' W h'.length v' r' ∧ HS P G' m' W h' ∧ Goes G m w [] G' m' W h' :=
  ⟨v, r, [], G', m', rfl, ⟨rfl, hq⟩, hr, ⟨fun b hb => absurd hb (Nat.not_lt_zero _), fun b _ hb => absurd hb (Nat.not_lt_zero _), hold⟩, goes_of_below hS hb hG⟩
theorem face_call {α : Type} {z : Tk} {f : FuncId} {enc : α → PV} {x : Re α} {l : List Tk} {b : Bool} (c : CT z f [.ptr 0 0] enc x l b) {G : Nat → Nat} {m : Nat → Pl} {w : World} {R : Nat} (hs : HS Tryz.prog G m w (blk z l b)) (hR : (m 0).at' = R) :
    Calls Tryz.prog f #[.pointer (some ⟨R, 0, none⟩)] w fun e w' =>
      (∃ v ve l' b' G' m', x = .ok (ve, l', b') ∧ e = .returned v ∧ Rep G' m' w' 1 v (enc ve) ∧ HS Tryz.prog G' m' w' (blk z l' b') ∧ (m' 0).at' = R ∧ Keeps G m w 0 G' m' w' ∧ Aft R G w G' w') ∨
      (∃ ft G', x = .error ft ∧ e = .panicked [{ v := fltV ft, recovered := false }] ∧ Aft R G w G' w') := by
  subst hR
  have ha : Args G m w (blk z l b).length #[.pointer (some ⟨(m 0).at', 0, none⟩)] [.ptr 0 0] := ⟨rfl, fun i hi => by
    match i, hi with
    | 0, _ => exact .ptr _ 0 0 (Nat.succ_pos 0)⟩
  refine (c G m w _ hs ha).mono ?_
  have aft : ∀ {G' : Nat → Nat} {m' : Nat → Pl} {w' : World} {h' : Heap}, HS Tryz.prog G' m' w' h' → Goes G m w (blk z l b) G' m' w' h' → Aft (m 0).at' G w G' w' := fun hs' g =>
    ⟨g.os, g.tape, g.output, g.size, fun k hk hne => g.rest k hk (fun b hb _ => by
      have : b = 0 := by simpa using hb
      subst this; exact fun he => hne he.symm), hs'.old⟩
  rintro e w' (⟨v, r, h', G', m', rfl, ⟨ve, l', b', hx, rfl, rfl⟩, hrep, hs', hg⟩ | ⟨c2, rfl, v, h', G', m', rfl, ⟨ft, hx, rfl⟩, hs', hg⟩)
  · exact .inl ⟨v, ve, l', b', G', m', hx, rfl, hrep, hs', congrArg Pl.at' (hg.map 0 (Nat.succ_pos 0)), hg.keeps.zero _, aft hs' hg⟩
  · exact .inr ⟨ft, G', hx, rfl, aft hs' hg⟩
theorem row_set {w : World} {A : Nat} {cs : Array Value} {T : TypeId} (h : w.heap[A]? = some (.cells cs T (0, 0))) (vs : List Value) (hl : vs.length = cs.size) :
    (w.setCells A 0 vs).heap[A]? = some (.cells vs.toArray T (0, 0)) ∧ (∀ k, k ≠ A → (w.setCells A 0 vs).heap[k]? = w.heap[k]?) ∧ (w.setCells A 0 vs).heap.size = w.heap.size ∧ (w.setCells A 0 vs).os = w.os ∧ (w.setCells A 0 vs).tape = w.tape ∧ (w.setCells A 0 vs).output = w.output := by
  have hc : cs = cs.toList.toArray := by simp
  rw [hc] at h
  obtain ⟨cs', g1, g2, g3, g4, g5, g6, g7, g8, g9⟩ := setCells_heap A vs 0 w cs.toList T (0, 0) h (by simp; omega)
  have e : cs' = vs := by
    apply List.ext_getElem (by simp at g2; omega)
    intro i h1 h2
    have := g3 i h2
    rw [Nat.zero_add, List.getD_eq_getElem?_getD, List.getD_eq_getElem?_getD, List.getElem?_eq_getElem h1, List.getElem?_eq_getElem h2] at this
    exact this
  rw [e] at g1
  exact ⟨g1, g5, g6, g7, g8, g9⟩
structure Rows2 (w W : World) (A B : Nat) (T S : TypeId) (vs us : List Value) : Prop where
  os : W.os = w.os
  tape : W.tape = w.tape
  output : W.output = w.output
  size : W.heap.size = w.heap.size
  first : W.heap[A]? = some (.cells vs.toArray T (0, 0))
  second : W.heap[B]? = some (.cells us.toArray S (0, 0))
  rest : ∀ k, k ≠ A → k ≠ B → W.heap[k]? = w.heap[k]?
theorem rows_ab {w : World} {A B : Nat} {cs ds : Array Value} {T S : TypeId} (hA : w.heap[A]? = some (.cells cs T (0, 0))) (hB : w.heap[B]? = some (.cells ds S (0, 0))) (hAB : A ≠ B) (vs us : List Value) (hv : vs.length = cs.size) (hu : us.length = ds.size) :
    Rows2 w ((w.setCells A 0 vs).setCells B 0 us) A B T S vs us := by
  obtain ⟨a1, a2, a3, a4, a5, a6⟩ := row_set hA vs hv
  obtain ⟨b1, b2, b3, b4, b5, b6⟩ := row_set ((a2 B (fun h => hAB h.symm)).trans hB) us hu
  exact ⟨b4.trans a4, b5.trans a5, b6.trans a6, b3.trans a3, (b2 A hAB).trans a1, b1, fun k h1 h2 => (b2 k h2).trans (a2 k h1)⟩
theorem rows_bab {w : World} {A B : Nat} {cs ds : Array Value} {T S : TypeId} (hA : w.heap[A]? = some (.cells cs T (0, 0))) (hB : w.heap[B]? = some (.cells ds S (0, 0))) (hAB : A ≠ B) (vs us : List Value) (hv : vs.length = cs.size) (hu : us.length = ds.size) :
    Rows2 w (((w.setCells B 0 us).setCells A 0 vs).setCells B 0 us).drew A B T S vs us := by
  obtain ⟨c1, c2, c3, c4, c5, c6⟩ := row_set hB us hu
  have r := rows_ab ((c2 A hAB).trans hA) c1 hAB vs us hv (by simp)
  exact ⟨r.os.trans c4, r.tape.trans c5, r.output.trans c6, r.size.trans c3, r.first, r.second, fun k h1 h2 => (r.rest k h1 h2).trans (c2 k h2)⟩
theorem Rows2.below {w W w0 : World} {A B : Nat} {T S : TypeId} {vs us : List Value} (r : Rows2 w W A B T S vs us) (hb : Below w0.heap.size w0 w) (hA : w0.heap.size ≤ A) (hB : w0.heap.size ≤ B) : Below w0.heap.size w0 W :=
  two_below hb ⟨r.os, r.tape, r.output, r.size, fun k hk => r.rest k (by omega) (by omega)⟩
theorem Rows2.keeps {w W : World} {A B : Nat} {T S : TypeId} {vs us : List Value} {cs ds : Array Value} {G : Nat → Nat} {m : Nat → Pl} (r : Rows2 w W A B T S vs us) (gA : G A = 0) (gB : G B = 0) (hA : w.heap[A]? = some (.cells cs T (0, 0))) (hB : w.heap[B]? = some (.cells ds S (0, 0))) (hv : vs.length = cs.size) (hu : us.length = ds.size) (n : Nat) : Keeps G m w n G m W :=
  off_keeps (h := []) (fun g => by
    by_cases h1 : g = A
    · subst h1; exact .inr ⟨gA, _, _, _, hA, r.first, by simpa using hv⟩
    · by_cases h2 : g = B
      · subst h2; exact .inr ⟨gB, _, _, _, hB, r.second, by simpa using hu⟩
      · exact .inl (r.rest g h1 h2)) n
theorem at_rows {P : Program} {f : Func} {Q : Ending → World → Prop} {e : Exit} {a : Act} {w W : World} {A B : Nat} {T S : TypeId} {vs us : List Value} (r : Rows2 w W A B T S vs us) (h : ∀ W', Rows2 w W' A B T S vs us → bodyPostD P f Q e a W') : bodyPostD P f Q e a W := h W r
structure Row1 (w W : World) (A : Nat) (T : TypeId) (vs : List Value) : Prop where
  os : W.os = w.os
  tape : W.tape = w.tape
  output : W.output = w.output
  size : W.heap.size = w.heap.size
  first : W.heap[A]? = some (.cells vs.toArray T (0, 0))
  rest : ∀ k, k ≠ A → W.heap[k]? = w.heap[k]?
theorem row_one {w : World} {A : Nat} {cs : Array Value} {T : TypeId} (h : w.heap[A]? = some (.cells cs T (0, 0))) (vs : List Value) (hl : vs.length = cs.size) : Row1 w (w.setCells A 0 vs) A T vs := by
  obtain ⟨a1, a2, a3, a4, a5, a6⟩ := row_set h vs hl
  exact ⟨a4, a5, a6, a3, a1, a2⟩
theorem calls_row {P : Program} {f : FuncId} {args : Array Value} {Q : Ending → World → Prop} {w W : World} {A : Nat} {T : TypeId} {vs : List Value} (r : Row1 w W A T vs) (h : ∀ W', Row1 w W' A T vs → Calls P f args W' Q) : Calls P f args W Q := h W r
theorem face_tail {P : Program} {Q : Exit → Act → World → Prop} {id : Nat} {o0 o1 o2 o3 : Oper} {x0 x1 x2 x3 x6 x7 x8 x9 x10 x11 x12 x13 x14 x15 x16 x17 x18 x19 x20 x21 x22 x23 x24 x25 : Value} {ds : List Deferred} {w : World} {A B : Nat} {TA TB : TypeId} {dA : TypeDesc} {cs us zs : Array Value}
    (g0 : o0.guard = none) (g1 : o1.guard = none) (g2 : o2.guard = none) (g3 : o3.guard = none) (h0 : o0.op = .load TA (.tmp 4)) (d0 : o0.dst = some 24) (h1 : o1.op = .build TB #[]) (d1 : o1.dst = some 25) (h2 : o2.op = .store TA (.tmp 4) (.tmp 24)) (d2 : o2.dst = none) (h3 : o3.op = .store TB (.tmp 5) (.tmp 25)) (d3 : o3.dst = none)
    (hA : w.heap[A]? = some (.cells cs TA (0, 0))) (hB : w.heap[B]? = some (.cells us TB (0, 0))) (hAB : A ≠ B) (hu : P.underlying TA = some dA) (hd : (match dA with | .struct _ | .array _ _ => true | _ => false) = true) (hi : (P.info? TA).map (·.size) = some cs.size) (hb : ∀ w, (Instr.build TB #[]).run P w = .ok (.agg zs) w) (hi2 : (P.info? TB).map (·.size) = some zs.size) (hz : us.size = zs.size)
    (c1 : cs.all (·.oneCell') = true) (c2 : zs.all (·.oneCell') = true)
    (hQ : ∀ W', Rows2 w W' A B TA TB cs.toList zs.toList → Q .ret { tmps := #[x0, x1, x2, x3, .pointer (some ⟨A, 0, none⟩), .pointer (some ⟨B, 0, none⟩), x6, x7, x8, x9, x10, x11, x12, x13, x14, x15, x16, x17, x18, x19, x20, x21, x22, x23, .agg cs, .agg zs], defers := ds } W') :
    (Code.seq (.region id #[o0, o1, o2, o3] false) .ret).wp P Q { tmps := #[x0, x1, x2, x3, .pointer (some ⟨A, 0, none⟩), .pointer (some ⟨B, 0, none⟩), x6, x7, x8, x9, x10, x11, x12, x13, x14, x15, x16, x17, x18, x19, x20, x21, x22, x23, x24, x25], defers := ds } w := by
  refine wp_seq (wp_region_list ?_)
  show wpList P #[o0, o1, o2, o3] _ [o0, o1, o2, o3] _ w
  refine wpList_load_row g0 TA (.tmp 4) h0 A rfl TA cs (0, 0) dA hA hu hd hi ?_
  rw [d0]
  refine wpList_plain g1 (fun K hK => ?_)
  unfold Oper.wp
  simp only [execOp, h1, List.map_toArray, List.map_nil, Array.map_empty, Sem.run_bind, Sem.run_pure, Result.andThen_ok, hb]
  show K (Act.put _ o1.dst (.agg zs)) w
  rw [d1]
  refine hK _ _ ?_
  refine wpList_store_row g2 TA (.tmp 4) (.tmp 24) h2 A cs rfl rfl TA cs hA hi rfl c1 ?_
  rw [d2]
  have hB' : (w.setRow A cs).heap[B]? = some (.cells us TB (0, 0)) := (setRow_other w A B cs (fun h => hAB h.symm)).trans hB
  refine wpList_store_row g3 TB (.tmp 5) (.tmp 25) h3 B zs rfl rfl TB us hB' hi2 hz c2 ?_
  rw [d3]
  refine wp_ret (hQ _ ⟨rfl, rfl, rfl, by simp [World.setRow], ?_, ?_, fun k q1 q2 => ?_⟩)
  · rw [setRow_other _ B A zs hAB, setRow_heap w A cs cs TA (0, 0) hA]
  · rw [setRow_heap (w.setRow A cs) B us zs TB (0, 0) hB']
  · rw [setRow_other _ B k zs q2, setRow_other _ A k cs q1]
end Go.Proofs.YtjhnmikciejekaaGreat.Deep
