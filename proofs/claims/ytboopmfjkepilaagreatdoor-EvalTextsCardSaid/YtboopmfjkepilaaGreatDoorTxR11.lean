/-
  Texts of one proof, in their order. No condition.
-/
import Derived.Laws.NewFold
import Derived.Test.YtboopmfjkepilaaGreatDoorTxR10
namespace Go.Proofs.YtboopmfjkepilaaGreatDoor.Run
open Go.RowKit
set_option linter.unusedVariables false
set_option linter.unusedSimpArgs false
section
variable {P : Program} {w0 : Bs} {m : Mp} {h : Hp} {w : World} {a : Act} {f : Fr}
theorem firstN (s : SR w0 m h w) {t : TypeId} {sz : Nat} {x : CV} {v : Value} (hx : Rp m v x) {k : Nat} {ds : List CV} (hc : srcC P h t sz x = some (k, ds)) {n : Nat} (hn : n ≤ k) : ∃ news, LR m news (ds.take (n * sz)) ∧ (Builtin.firstCells sz n v).run P w = .ok news.toArray w ∧ (Builtin.lenOf v).run P w = .ok k w := by
  unfold srcC at hc
  split at hc
  · rename_i e hu
    split at hc
    · simp only [Option.some.injEq, Prod.mk.injEq] at hc
      obtain ⟨rfl, rfl⟩ := hc
      rw [hx.lit_eq]
      exact ⟨[], by simpa using LR.nil, run_firstCells_none w sz n 0 0, rfl⟩
    · rename_i b o n' sz' c1 x1
      split at hc
      case h_2 => cases hc
      rename_i cs g hb
      split at hc
      case h_2 => cases hc
      rename_i hck
      rw [Bool.and_eq_true] at hck
      have c1 := Nat.eq_of_beq_eq_true hck.1
      have c2 := Nat.le_of_ble_eq_true hck.2
      subst c1
      simp only [Option.some.injEq, Prod.mk.injEq] at hc
      obtain ⟨rfl, rfl⟩ := hc
      obtain ⟨p, C, T, fz, e1, e2, e3, e4, e5⟩ := s.blk b _ hb
      have h5 := e5.1
      have hm : n * sz ≤ n' * sz := Nat.mul_le_mul_right _ hn
      have hlr : LR m ((C.toList.drop (p.o + o)).take (n * sz)) (((cs.drop o).take (n' * sz)).take (n * sz)) := by
        refine ⟨by simp; omega, fun i hi => ?_⟩
        have hi2 : i < n * sz := by simp at hi; omega
        have := e5.2 (o + i) (by omega)
        simpa [List.getD_eq_getElem?_getD, Array.getD_eq_getD_getElem?, List.getElem?_take, hi2, show i < n' * sz by omega, Nat.add_assoc] using this
      cases hx with
      | sl _ _ _ _ _ _ c' q p' hp hn2 hcc hxx hN hq =>
        rw [e1] at hp; injection hp with hp; subst hp
        refine ⟨_, hlr, run_firstCells_some (P := P) w sz n ⟨p.r, q, none⟩ n' c' _ (by simp; omega) (fun j u hj => ?_), rfl⟩
        have hjl : j < n * sz := by have := (List.getElem?_eq_some_iff.1 hj).1; simp at this; omega
        have hn0 : 0 < n' := by
          rcases Nat.eq_zero_or_pos n' with rfl | hp
          · obtain rfl : n = 0 := by omega
            simp at hjl
          · exact hp
        have hq2 : q = p.o + o := by omega
        subst hq2
        rw [Addr.add_mid]
        simp only [World.cell?, e2]
        simp only [List.getElem?_take, hjl, if_true, List.getElem?_drop] at hj
        rw [← Array.getElem?_toList]; simpa using hj
    · cases hc
  · rename_i hu
    split at hc
    case h_2 => cases hc
    rename_i s'
    split at hc
    case h_2 => cases hc
    rename_i hz
    have hz := Nat.eq_of_beq_eq_true hz
    subst hz
    simp only [Option.some.injEq, Prod.mk.injEq] at hc
    obtain ⟨rfl, rfl⟩ := hc
    rw [hx.lit_eq]
    refine ⟨(byteCells s').take n, ?_, ?_, rfl⟩
    · have := (LR.map_lit (m := m) (byteCells s')).take n
      have e : (byteCells s').map CV.lit = s'.data.toList.map fun b => CV.lit (.int .u8 b.toNat) := by
        simp [byteCells, List.map_map, Function.comp_def]
      rw [e] at this
      simpa using this
    · simp only [Builtin.firstCells, Sem.run_pure]
      congr 1
      apply Array.ext'
      simp [byteCells, ByteArray.data_extract, List.map_take]
  · cases hc
theorem copyC_run (s : SR w0 m h w) {t tx : TypeId} {c x r : CV} {v u : Value} (hv : Rp m v c) (hu : Rp m u x) {h' : Hp} (hc : copyC P h t tx c x = some (r, h')) (ty : TypeId) : ∃ v' w', SR w0 m h' w' ∧ Rp m v' r ∧ (Builtin.copy_ #[t, tx] ty #[v, u]).run P w = .ok v' w' := by
  unfold copyC at hc
  split at hc
  case h_2 => cases hc
  rename_i e ht
  split at hc
  case h_2 => cases hc
  rename_i z hz
  have hz : szT P e = some (z + 1) := hz
  split at hc
  · cases hc
  rename_i k ds hsrc
  split at hc
  · simp only [Option.some.injEq, Prod.mk.injEq] at hc
    obtain ⟨rfl, rfl⟩ := hc
    obtain ⟨news, n1, n2, n3⟩ := firstN (P := P) s hu hsrc (n := 0) (by omega)
    have hnil : news = [] := List.length_eq_zero_iff.1 (by have := n1.1; simpa using this)
    subst hnil
    rw [hv.lit_eq]
    refine ⟨_, w, s, .lit _, ?_⟩
    have hmin : Nat.min k 0 = 0 := by simp [Nat.min_def]
    simp only [Builtin.copy_, Sem.run_bind, run_underlying ht, Result.andThen_ok, szT_run hz, n3, hmin, n2]
    simp [run_underlying ht, n3, hmin, szT_run hz, n2, goInt]
  · rename_i b o n sz cc xx
    split at hc
    · cases hc
    rename_i hsz
    have hsz := Nat.eq_of_beq_eq_true hsz
    subst hsz
    split at hc
    case h_2 => cases hc
    rename_i cs g hb
    split at hc
    case h_2 => cases hc
    rename_i hck
    rw [Bool.and_eq_true] at hck
    have c1 := Nat.le_of_ble_eq_true hck.1
    rw [litI_eq] at hc
    simp only [Option.some.injEq, Prod.mk.injEq] at hc
    obtain ⟨rfl, rfl⟩ := hc
    have hmin : Nat.min k n ≤ k := Nat.min_le_left _ _
    have hmin2 : Nat.min k n ≤ n := Nat.min_le_right _ _
    obtain ⟨news, n1, n2, n3⟩ := firstN (P := P) s hu hsrc hmin
    have hones := ones_rep n1 hck.2
    cases hv with
    | sl _ _ _ _ _ _ c' q p hp hn hcc hxx hN hq =>
    obtain ⟨p', C, T, fz, e1, e2, e3, e4, e5⟩ := s.blk b _ hb
    have e1' := e1
    rw [hp] at e1'; injection e1' with e1'; subst e1'
    have h5 := e5.1
    have hdl : (ds.take (Nat.min k n * (z + 1))).length ≤ Nat.min k n * (z + 1) := by simp; omega
    have hst := s.store hb hp n1 (j := o) (by omega)
    have hnl := n1.1
    have hq2 : news = [] ∨ q = p.o + o := by
      rcases hq with hq | hq
      · exact .inr hq
      · left
        obtain rfl : n = 0 := by omega
        apply List.length_eq_zero_iff.1
        rw [hnl]; simp
    refine ⟨_, _, hst, .lit _, ?_⟩
    have hrun : (storeCells ⟨p.r, q, none⟩ news).run P w = .ok () (w.setCells p.r (p.o + o) news) := by
      rcases hq2 with rfl | rfl
      · rfl
      · have := run_storeCells_cells (P := P) p.r (p.o + o) news 0 w (fun j hj => by
          have hlt : p.o + o + j < C.size := by omega
          simp only [World.cell?, e2]
          simp [Array.getElem?_eq_getElem hlt]) (fun j hj => by
          have hlt : p.o + o + j < C.size := by omega
          simp only [World.frozen?, e2]
          simpa using e4.old _ hlt) hones
        simpa using this
    simp [Builtin.copy_, run_underlying ht, n3, szT_run hz, n2, hrun, goInt]
  · cases hc
theorem clearC_run (s : SR w0 m h w) {t : TypeId} {c : CV} {v : Value} (hv : Rp m v c) {h' : Hp} (hc : clearC P h t c = some h') (ts : Array TypeId) (hts : ts.toList = [t]) (ty : TypeId) (vs : Array Value) (hvs : vs.toList = [v]) : ∃ w', SR w0 m h' w' ∧ (Builtin.clear_ ts ty vs).run P w = .ok undef w' := by
  have h0 : ts[0]? = some t := by rw [← Array.getElem?_toList, hts]; rfl
  have h1 : vs[0]? = some v := by rw [← Array.getElem?_toList, hvs]; rfl
  unfold clearC at hc
  split at hc
  case h_2 => cases hc
  rename_i kt e hu
  split at hc
  case h_2 => cases hc
  rename_i b
  split at hc
  case h_2 => cases hc
  rename_i es bs ck hb
  injection hc with hc; subst hc
  obtain ⟨p, E, clk, e1, e2, e3, e4, e5, e6⟩ := s.blk b _ hb
  subst e6
  cases hv with
  | mp _ p' hp =>
  rw [e1] at hp; injection hp with hp; subst hp
  have hlt := (s.dom b p e1).2.2
  refine ⟨{ w with heap := w.heap.setIfInBounds p.r (.map #[] clk) }, ?_, ?_⟩
  · refine s.turn (k := .map es bs clk) hb rfl (k' := .map [] [] clk) rfl e1 ⟨rfl, rfl, rfl, by simp, fun j hj => ?_⟩ ?_ (fun r hr => ?_)
    · have := (s.dom b p e1).2.1.1
      simp only [Array.getElem?_setIfInBounds]
      rw [if_neg (by omega)]
    · exact ⟨p, #[], clk, e1, by simp [hlt], rfl, fun i hi => absurd hi (Nat.not_lt_zero _), rfl, rfl⟩
    · simp only [Array.getElem?_setIfInBounds]
      rw [if_neg (fun e => hr e.symm)]
  · simp [Builtin.clear_, h0, h1, run_underlying hu, MapKept.run_getObj_map e2, MapKept.run_setObj_map _ e2, undef]
theorem bytes_new (w : World) (e : TypeId) (s : ByteArray) : ∃ c', s.data.toList.length ≤ c' ∧ ∃ W : World, (Conv.stringToBytes e s).run P w = .ok (.slice (some ⟨w.heap.size, 0, none⟩) s.data.toList.length c') W ∧ Below w.heap.size w W ∧
    (∃ (C : Array Value) (fz : Nat × Nat), W.heap[w.heap.size]? = some (.cells C e fz) ∧ C.size = c' ∧ Thaw C fz ∧ ∀ m : Mp, AR m C 0 (s.data.toList.map fun b => .lit (.int .u8 b.toNat))) ∧ w.heap.size < W.heap.size := by
  have hge := grownCap_ge w s.size 0 e
  have hs : s.data.toList.length = s.size := by rw [Array.length_toList]; rfl
  have hsd : s.data.size = s.size := rfl
  let C : Array Value := (s.data.map fun b => Value.int .u8 b.toNat) ++ Array.replicate (grownCap w s.size 0 e - s.size) (Value.int .u8 0)
  have hC : C.size = grownCap w s.size 0 e := by simp [C, hsd]; omega
  obtain ⟨W1, hW1⟩ : ∃ W1, w.drew.alloc (.cells C e) = W1 := ⟨_, rfl⟩
  have hk : W1.heap[w.heap.size]? = some (.cells C e (0, 0)) := by
    rw [← hW1]; show (w.heap.push _)[w.heap.size]? = _; simp
  have hlt : w.heap.size < W1.heap.size := by rw [← hW1]; show _ < (w.heap.push _).size; simp
  have hb1 : Below w.heap.size w W1 := by rw [← hW1]; exact (Below.refl _ w).drew.alloc (Nat.le_refl _) _
  refine ⟨grownCap w s.size 0 e, by omega, W1.freeze ⟨w.heap.size, C.size, none⟩ 1, ?_, ?_, ⟨C, (C.size, C.size + 1), ?_, hC, fun i hi => by omega, fun m => ?_⟩, ?_⟩
  · have hshape : W1.shape? w.heap.size = some (e, C.size) := by
      unfold World.shape?; rw [hk]
    have hch : (choose (.appendCap s.size 0 e)).run P w = .ok (grownCap w s.size 0 e) w.drew := by
      rw [Go.run_choose_drew, if_neg (by simp [Question.forced])]; rfl
    have hnew : (newRow e C).run P w.drew = .ok ⟨w.heap.size, 0, none⟩ W1 := by
      rw [← hW1]; rfl
    have hmark : (markStringish ⟨w.heap.size, 0, none⟩).run P W1 = .ok () (W1.freeze ⟨w.heap.size, C.size, none⟩ 1) := by
      simp only [markStringish, Sem.run_bind]
      have : (shape w.heap.size).run P W1 = .ok (some (e, C.size)) W1 := by
        show Sem.run P (.shape _ _) W1 = _
        simp only [Sem.run, hshape]
      rw [this]; rfl
    simp only [Conv.stringToBytes, Sem.run_bind, hch, Result.andThen_ok]
    have hnew' : (newRow e ((s.data.map fun b => Value.int .u8 b.toNat) ++ Array.replicate (grownCap w s.size 0 e - s.size) (Value.int .u8 0))).run P w.drew = .ok ⟨w.heap.size, 0, none⟩ W1 := hnew
    rw [hnew', Result.andThen_ok, hmark, Result.andThen_ok, hs]
    rfl
  · refine hb1.trans ⟨rfl, rfl, rfl, by simp [World.freeze], fun k hk => ?_⟩
    simp only [World.freeze]
    rw [if_neg (by omega)]
    simp only [Array.getElem?_modify]
    rw [if_neg (by omega)]
  · simp only [World.freeze]
    rw [if_neg (by omega)]
    simp only [Array.getElem?_modify, if_pos, hk]
    simp
  · have := LR.map_lit (m := m) (byteCells s)
    have e1 : (byteCells s).map CV.lit = s.data.toList.map fun b => CV.lit (.int .u8 b.toNat) := by simp [byteCells, List.map_map, Function.comp_def]
    rw [e1] at this
    have h2 := AR.of2 (D := Array.replicate (grownCap w s.size 0 e - s.size) (Value.int .u8 0)) this
    have e2 : (byteCells s).toArray = s.data.map fun b => Value.int .u8 b.toNat := by
      apply Array.ext'; simp [byteCells]
    rw [e2] at h2
    exact h2
  · simp only [World.freeze]
    rw [if_neg (by omega)]
    simpa using hlt
theorem two_args {as : Array Operand} {x y : Operand} (hl : as.toList = [x, y]) (ρ : Operand → Value) : as.map ρ = #[ρ x, ρ y] := by
  apply Array.ext'; simp [hl]
theorem two_types {ts : Array TypeId} {x y : TypeId} (hl : ts.toList = [x, y]) : ts = #[x, y] := by
  apply Array.ext'; simp [hl]
set_option maxHeartbeats 1000000 in
theorem opE_run (s : SR w0 m h w) (hf : FR m a f) (o : Oper) {c : CV} {h' : Hp} (hc : opE P (evO f) h o = some (c, h')) : Did w0 m ((execOp a.eval o).run P w) c h' := by
  unfold opE at hc
  split at hc
  · rename_i t ho
    split at hc
    case h_2 => cases hc
    rename_i z hz
    simp only [Option.some.injEq, Prod.mk.injEq] at hc
    obtain ⟨rfl, rfl⟩ := hc
    refine new_ptr s (C := z.cells) (T := t) (AR.of (LR.map_lit _)) ?_
    simp [execOp, ho, Instr.alloc, zeroT_run hz, newVar, newRow]
  · rename_i t x ho
    split at hc
    case h_2 => cases hc
    rename_i ds hds
    simp only [Option.some.injEq, Prod.mk.injEq] at hc
    obtain ⟨rfl, rfl⟩ := hc
    refine new_ptr s (C := (a.eval x).cells) (T := t) (AR.of (cellsC_rep (hf.ev x) hds)) ?_
    simp [execOp, ho, Instr.box, newVar, newRow]
  · rename_i t len parts ho
    split at hc
    case h_2 => cases hc
    rename_i e hu
    split at hc
    case h_2 => cases hc
    rename_i n z hn hz
    split at hc
    case h_2 => cases hc
    rename_i hck
    rw [Bool.and_eq_true] at hck
    have c1 := Nat.le_of_ble_eq_true hck.1
    have c2 := Nat.eq_of_beq_eq_true hck.2
    split at hc
    case h_2 => cases hc
    rename_i cs hcs
    simp only [Option.some.injEq, Prod.mk.injEq] at hc
    obtain ⟨rfl, rfl⟩ := hc
    obtain ⟨vs, e1, e2⟩ := fillC_run hf.ev (place' := fun i => some (i * n, n)) (fun i p hp => hp) parts.toList (madeCells z.cells (len * n)) _ cs (zerosC_lr z.cells (len * n) (fun hp => by
      rcases Nat.eq_zero_or_pos n with rfl | h0
      · simp at hp
      · omega)) hcs
    have hsz : vs.size = len * n := by
      have h1 := e2.1
      have : cs.length = len * n := by
        have hlen : ∀ (parts : List (Nat × Operand)) (cells cs : List CV), fillC (fun i => some (i * n, n)) (evO f) cells parts = some cs → cs.length = cells.length := by
          intro parts
          induction parts with
          | nil => intro cells cs hh; simp only [fillC, Option.some.injEq] at hh; rw [hh]
          | cons q qs ih =>
            intro cells cs hh
            simp only [fillC] at hh
            split at hh
            · cases hh
            split at hh
            · rw [ih _ _ hh, spA_length]
            · cases hh
        rw [hlen _ _ _ hcs]; simp [zerosC]
      simpa [this] using h1
    refine new_sl s (C := vs) (T := e) (AR.of e2) (Nat.le_refl _) (Nat.le_refl _) (fun _ => rfl) (by rw [hsz]; exact Nat.le_refl _) ?_
    have hpl : (parts.map fun (x : Nat × Operand) => (x.1, a.eval x.2)).toList = parts.toList.map fun x => (x.1, a.eval x.2) := by simp
    have hbig : ¬ (len * n > 2 ^ 24) := by omega
    have hbig' : ¬ (16777216 < len * n) := by omega
    by_cases hz0 : len * n = 0
    · have hm0 : madeCells z.cells (len * n) = #[] := by rw [hz0]; simp [madeCells]
      rw [hm0] at e1
      simp [execOp, ho, Instr.buildSlice, run_underlying hu, szT_run hn, hz0, newRow, e1, Array.range_zero']
    · have e1' : Instr.fill (fun i => some (i * n, n)) ((Array.range (len * n)).map (z.cells[· % z.cells.size]!)) (parts.toList.map fun x => (x.1, a.eval x.2)) = some vs := e1
      simp [execOp, ho, Instr.buildSlice, run_underlying hu, szT_run hn, hz0, hbig', zeroT_run hz, newRow, e1']
  · rename_i t l c1 ho
    split at hc
    case h_2 => cases hc
    rename_i e hu
    split at hc
    case h_2 => cases hc
    rename_i n z bt hn hz hbt
    split at hc
    case h_2 => cases hc
    rename_i ln cn hl hcn
    split at hc
    case h_2 => cases hc
    rename_i hck
    simp only [Bool.and_eq_true] at hck
    obtain ⟨⟨⟨c1', c2⟩, c3⟩, c4⟩ := hck
    have c1' := Nat.le_of_ble_eq_true c1'
    have c2 := Nat.le_of_ble_eq_true c2
    have c3 := Nat.le_of_ble_eq_true c3
    have c4 := Nat.eq_of_beq_eq_true c4
    simp only [Option.some.injEq, Prod.mk.injEq] at hc
    obtain ⟨rfl, rfl⟩ := hc
    obtain ⟨kl, hkl⟩ := natC_run (hf.ev l) hl
    obtain ⟨kc, hkc⟩ := natC_run (hf.ev c1) hcn
    obtain ⟨i, hi, his⟩ := info_of hn
    have hiz := zero_of hi hz
    have hib := bytes_of hi hbt
    have hb' : ((i.bytes : Nat) : Int) * (cn : Int) ≤ 281474976710656 := by
      have h : ((i.bytes * cn : Nat) : Int) ≤ 281474976710656 := by rw [hib]; omega
      rwa [Int.natCast_mul] at h
    have hrun := run_make (P := P) w t e i z hu hi hiz kl kc (ln : Int) (cn : Int) (by omega) (by omega) hb' (by omega)
    simp only [Int.toNat_natCast] at hrun
    rw [his] at hrun
    refine new_sl s (C := madeCells z.cells (cn * n)) (T := e) (AR.of (zerosC_lr z.cells (cn * n) (fun hp => by
      rcases Nat.eq_zero_or_pos n with rfl | h0
      · simp at hp
      · omega))) c1' (Nat.le_refl _) (fun _ => rfl) (by rw [size_madeCells]; exact Nat.le_refl _) ?_
    simp [execOp, ho, hkl, hkc, hrun]
  · rename_i t x y ho
    split at hc
    case h_2 => cases hc
    rename_i h2 hst
    simp only [Option.some.injEq, Prod.mk.injEq] at hc
    obtain ⟨rfl, rfl⟩ := hc
    obtain ⟨w', k1, k2⟩ := storeC_run (P := P) s (hf.ev x) (hf.ev y) hst
    exact ⟨m, undef, w', MLe.refl m, k1, .lit _, .inr ⟨rfl, by simp [execOp, ho, k2]⟩⟩
  · rename_i t ho
    simp only [Option.some.injEq, Prod.mk.injEq] at hc
    obtain ⟨rfl, rfl⟩ := hc
    refine ⟨_, .map (some w.heap.size), w.alloc (.map #[] 0), mset_le s ⟨w.heap.size, 0, 0⟩, s.new _ ⟨w.heap.size, 0, 0⟩ ((Below.refl _ w).alloc (Nat.le_refl _) _) (Nat.le_refl _) (by show w.heap.size < (w.heap.push _).size; simp) ?_ (fun cs g e => by cases e), Rp.mp h.n _ (mset_self _ _ _), .inl ?_⟩
    · exact ⟨_, #[], 0, mset_self _ _ _, by show (w.heap.push _)[w.heap.size]? = _; simp, rfl, fun i hi => absurd hi (Nat.not_lt_zero _), rfl, rfl⟩
    · simp [execOp, ho, Instr.makeMap]
  · rename_i t x y z ho
    split at hc
    case h_2 => cases hc
    rename_i h2 hst
    simp only [Option.some.injEq, Prod.mk.injEq] at hc
    obtain ⟨rfl, rfl⟩ := hc
    obtain ⟨w', k1, k2⟩ := mapSetC_run (P := P) s (hf.ev x) (hf.ev y) (hf.ev z) hst
    exact ⟨m, undef, w', MLe.refl m, k1, .lit _, .inr ⟨rfl, by simp [execOp, ho, k2]⟩⟩
  · rename_i t x y z ho
    split at hc
    case h_2 => cases hc
    rename_i h2 hst
    simp only [Option.some.injEq, Prod.mk.injEq] at hc
    obtain ⟨rfl, rfl⟩ := hc
    obtain ⟨w', k1, k2⟩ := mapSetC_run (P := P) s (hf.ev x) (hf.ev y) (hf.ev z) hst
    exact ⟨m, undef, w', MLe.refl m, k1, .lit _, .inr ⟨rfl, by simp [execOp, ho, k2]⟩⟩
  · rename_i t x ho
    split at hc
    case h_2 => cases hc
    rename_i hu
    split at hc
    case h_2 => cases hc
    rename_i s' hs
    simp only [Option.some.injEq, Prod.mk.injEq] at hc
    obtain ⟨rfl, rfl⟩ := hc
    have hx := hf.ev x
    rw [hs] at hx
    have hx := hx.lit_eq
    refine ⟨_, _, w.alloc (.stringIter s' 0), mset_le s ⟨w.heap.size, 0, 0⟩, s.new _ ⟨w.heap.size, 0, 0⟩ ((Below.refl _ w).alloc (Nat.le_refl _) _) (Nat.le_refl _) (by show w.heap.size < (w.heap.push _).size; simp) ?_ (fun cs g e => by cases e), Rp.ptr h.n 0 _ (mset_self _ _ _), .inl ?_⟩
    · exact ⟨_, mset_self _ _ _, rfl, by show (w.heap.push _)[w.heap.size]? = _; simp⟩
    · simp [execOp, ho, hx, Instr.range, run_underlying hu]
  · rename_i x ho
    split at hc
    case h_2 => cases hc
    rename_i b hx
    split at hc
    case h_2 => cases hc
    rename_i s' pos hb
    obtain ⟨p, e1, e0, e2⟩ := s.blk b _ hb
    have hp := hf.ev x
    rw [hx] at hp
    generalize hv : a.eval x = v at hp
    cases hp with
    | ptr _ _ p' hpp =>
    rw [e1] at hpp; injection hpp with hpp; subst hpp
    have hlt := (s.dom b p e1).2.2
    have hg : (getObj p.r).run P w = .ok (.stringIter s' pos) w := by simp [getObj, Sem.run, e2]
    split at hc
    · rename_i hpos
      have hpos : pos < s'.size := Nat.le_of_ble_eq_true hpos
      simp only [nfN_eq, Option.some.injEq, Prod.mk.injEq] at hc
      obtain ⟨rfl, rfl⟩ := hc
      have hset : (setObj p.r (.stringIter s' (pos + (Utf8.decode s' pos).2))).run P w = .ok () { w with heap := w.heap.setIfInBounds p.r (.stringIter s' (pos + (Utf8.decode s' pos).2)) } := by simp [setObj, Sem.run, e2]
      refine ⟨m, .tuple #[.bool true, .int .i64 pos, .int .i32 (Utf8.decode s' pos).1], { w with heap := w.heap.setIfInBounds p.r (.stringIter s' (pos + (Utf8.decode s' pos).2)) }, MLe.refl m, s.turn (k := .iter s' pos) hb rfl (k' := .iter s' (pos + (Utf8.decode s' pos).2)) rfl e1 ⟨rfl, rfl, rfl, by simp, fun j hj => ?_⟩ ⟨p, e1, e0, by simp [hlt]⟩ (fun r hr => ?_), ?_, .inl ?_⟩
      · have := (s.dom b p e1).2.1.1
        simp only [Array.getElem?_setIfInBounds]
        rw [if_neg (by omega)]
      · simp only [Array.getElem?_setIfInBounds]
        rw [if_neg (fun e => hr e.symm)]
      · have := (((LR.nil (m := m)).cons (.lit (.int .i32 (Utf8.decode s' pos).1))).cons (.lit (.int .i64 pos))).cons (.lit (.bool true))
        exact .tup _ _ this.1 this.2
      · simp [execOp, ho, hv, e0, Instr.next, hg, hpos, hset, goInt]
    · rename_i hpos
      have hpos : ¬ pos < s'.size := fun hlt => by
        have : Nat.blt pos s'.size = true := Nat.ble_eq_true_of_le hlt
        rw [hpos] at this; cases this
      simp only [Option.some.injEq, Prod.mk.injEq] at hc
      obtain ⟨rfl, rfl⟩ := hc
      refine ⟨m, .tuple #[.bool false], w, MLe.refl m, s, ?_, .inl ?_⟩
      · have := (LR.nil (m := m)).cons (.lit (.bool false))
        exact .tup _ _ this.1 this.2
      · simp [execOp, ho, hv, e0, Instr.next, hg, hpos]
  · rename_i src dst x ho
    split at hc
    case h_3 => cases hc
    · rename_i e hs hd
      split at hc
      case h_2 => cases hc
      rename_i he
      split at hc
      case h_2 => cases hc
      rename_i s' hx
      simp only [Option.some.injEq, Prod.mk.injEq] at hc
      obtain ⟨rfl, rfl⟩ := hc
      have hv := hf.ev x
      rw [hx] at hv
      have hv := hv.lit_eq
      obtain ⟨c', hc', W, hrun, hbel, hblk, hsz⟩ := bytes_new (P := P) w e s'
      refine ⟨_, _, W, mset_le s ⟨w.heap.size, 0, c'⟩, s.new _ ⟨w.heap.size, 0, c'⟩ hbel (Nat.le_refl _) hsz ?_ (fun cs g e => by injection e with _ e2; exact e2.symm), Rp.sl h.n 0 _ 1 _ false c' 0 _ (mset_self _ _ _) hc' hc' (fun h => by cases h) (by simp) (.inl rfl), .inl ?_⟩
      · obtain ⟨C, fz, b1, b2, b3, b4⟩ := hblk
        exact ⟨_, C, e, fz, mset_self _ _ _, b1, b2, b3, b4 _⟩
      · simp only [execOp, ho, hv, convert, Sem.run_bind, run_underlying hs, run_underlying hd, run_underlying he, Result.andThen_ok, hrun, Sem.run_pure]
    · rename_i e1 e hs hd
      split at hc
      case h_2 => cases hc
      rename_i he
      split at hc
      case h_2 => cases hc
      rename_i hsd
      split at hc
      case h_2 => cases hc
      rename_i b o n z c own hx
      split at hc
      case h_2 => cases hc
      rename_i cs g hb
      simp only [Option.some.injEq, Prod.mk.injEq] at hc
      obtain ⟨rfl, rfl⟩ := hc
      have hv := hf.ev x
      rw [hx] at hv
      obtain ⟨p, C, T, fz, hp, hw, _⟩ := s.blk b _ hb
      generalize hev : a.eval x = v at hv
      cases hv with
      | sl _ _ _ _ _ _ c' q p' h hn hc hx2 hN hq =>
      rw [hp] at h; injection h with h; subst h
      have hsd : src = dst := Nat.eq_of_beq_eq_true hsd
      subst hsd
      obtain rfl : e1 = e := by
        rw [hs] at hd
        injection hd with hd
        injection hd
      refine ⟨m, _, _, MLe.refl m, s.mark hb hp hw, .sl b o n z c own c' q p hp hn hc hx2 hN hq, .inl ?_⟩
      have hshape : (shape p.r).run P w = .ok (some (T, C.size)) w := by
        show Sem.run P (.shape _ _) w = _
        simp only [Sem.run]
        unfold World.shape?
        rw [hw]
      have hmark : (markStringish ⟨p.r, q, none⟩).run P w = .ok () (w.freeze ⟨p.r, C.size, none⟩ 1) := by
        simp only [markStringish, Sem.run_bind]
        rw [hshape]; rfl
      simp only [execOp, ho, hev, convert, Sem.run_bind, run_underlying hs, run_underlying he, Result.andThen_ok, beq_self_eq_true, hmark, Sem.run_pure]
  · rename_i c1 ho
    split at hc
    · rename_i hb
      split at hc
      case h_2 => cases hc
      rename_i t tx x y hts has
      obtain ⟨m', v', w', k1, k2, k3, k4⟩ : ∃ m' v' w', MLe m m' ∧ SR w0 m' h' w' ∧ Rp m' v' c ∧ (Builtin.append_ #[t, tx] o.type #[a.eval x, a.eval y]).run P w = .ok v' w' := by
        split at hc
        · rename_i r hr
          simp only [Option.some.injEq] at hc
          subst hc
          exact appZ_run (P := P) s (hf.ev x) (hf.ev y) hr o.type
        · exact appC_run (P := P) s (hf.ev x) (hf.ev y) hc o.type
      refine ⟨m', v', w', k1, k2, k3, .inl ?_⟩
      simp [execOp, ho, resolve, hb, invoke, builtin, two_types hts, two_args has, k4]
    · rename_i hb
      split at hc
      case h_2 => cases hc
      rename_i t tx x y hts has
      obtain ⟨v', w', k2, k3, k4⟩ := copyC_run (P := P) s (hf.ev x) (hf.ev y) hc o.type
      refine ⟨m, v', w', MLe.refl m, k2, k3, .inl ?_⟩
      simp [execOp, ho, resolve, hb, invoke, builtin, two_types hts, two_args has, k4]
    · rename_i hb
      split at hc
      case h_2 => cases hc
      rename_i t tx x y hts has
      split at hc
      case h_2 => cases hc
      rename_i h2 hst
      simp only [Option.some.injEq, Prod.mk.injEq] at hc
      obtain ⟨rfl, rfl⟩ := hc
      obtain ⟨w', k2, k4⟩ := mapDelC_run (P := P) s (hf.ev x) (hf.ev y) hst c1.argTypes tx hts o.type (c1.args.map a.eval) (by simp [has])
      refine ⟨m, undef, w', MLe.refl m, k2, .lit _, .inl ?_⟩
      simp [execOp, ho, resolve, hb, invoke, builtin, k4]
    · rename_i hb
      split at hc
      case h_2 => cases hc
      rename_i t x hts has
      split at hc
      case h_2 => cases hc
      rename_i h2 hst
      simp only [Option.some.injEq, Prod.mk.injEq] at hc
      obtain ⟨rfl, rfl⟩ := hc
      obtain ⟨w', k2, k4⟩ := clearC_run (P := P) s (hf.ev x) hst c1.argTypes hts o.type (c1.args.map a.eval) (by simp [has])
      refine ⟨m, undef, w', MLe.refl m, k2, .lit _, .inl ?_⟩
      simp [execOp, ho, resolve, hb, invoke, builtin, k4]
    · cases hc
  · rename_i t x y ho
    obtain ⟨y', w', k1, k2, k3⟩ := mapEntC_run (P := P) s (hf.ev x) (hf.ev y) hc
    exact ⟨m, y', w', MLe.refl m, k2, k1, .inl (by simp [execOp, ho, k3])⟩
  · rename_i t x y z ho
    split at hc
    case h_2 => cases hc
    rename_i h2 hst
    simp only [Option.some.injEq, Prod.mk.injEq] at hc
    obtain ⟨rfl, rfl⟩ := hc
    obtain ⟨w', k1, k2⟩ := entStoreC_run (P := P) (t := t) s (hf.ev x) (hf.ev y) (hf.ev z) hst
    exact ⟨m, undef, w', MLe.refl m, k1, .lit _, .inr ⟨rfl, by simp [execOp, ho, k2]⟩⟩
  · cases hc
end
end Go.Proofs.YtboopmfjkepilaaGreatDoor.Run
