/-
  Texts of one proof, in their order. No condition.
-/
import Derived.Deep.Onto
import Derived.Deep.Upon
import Derived.Lib.AppendZeros
import Derived.Test.YtboopmfjkepilaaGreatDoorTxR9
namespace Go.Proofs.YtboopmfjkepilaaGreatDoor.Run
open Go.RowKit
set_option linter.unusedVariables false
set_option linter.unusedSimpArgs false
def Did (w0 : Bs) (m : Mp) (r : Result Next) (c : CV) (h' : Hp) : Prop := ∃ m' v w', MLe m m' ∧ SR w0 m' h' w' ∧ Rp m' v c ∧ (r = .ok (.value v) w' ∨ (v = undef ∧ r = .ok .skip w'))
section
variable {P : Program} {w0 : Bs} {m : Mp} {h : Hp} {w : World} {a : Act} {f : Fr}
theorem AR.of {C : Array Value} {cs : List CV} (hr : LR m C.toList cs) : AR m C 0 cs := by
  refine ⟨by have := hr.1; simp at this; omega, fun i hi => ?_⟩
  have := hr.2 i hi
  simpa [Array.getD_eq_getD_getElem?, List.getD_eq_getElem?_getD] using this
theorem AR.of2 {vs : List Value} {D : Array Value} {cs : List CV} (hr : LR m vs cs) : AR m (vs.toArray ++ D) 0 cs := by
  have hl := hr.1
  refine ⟨by simp; omega, fun i hi => ?_⟩
  have := hr.2 i hi
  rw [Array.getD_eq_getD_getElem?, Nat.zero_add, Array.getElem?_append_left (by simp; omega)]
  simpa [List.getD_eq_getElem?_getD] using this
theorem zerosC_lr (z : Array Value) (n : Nat) (hpos : 0 < n → 0 < z.size) : LR m (madeCells z n).toList (zerosC z.toList n) := by
  refine ⟨by simp [madeCells, zerosC], fun i hi => ?_⟩
  have hi' : i < n := by simpa [zerosC] using hi
  have e1 : (madeCells z n).toList.getD i undef = z[i % z.size]! := by
    simp [madeCells, List.getD_eq_getElem?_getD, hi']
  rw [e1]
  have e2 : (zerosC z.toList n).getD i .any = .lit (z.toList.getD (i % z.toList.length) undef) := by
    simp [zerosC, List.getD_eq_getElem?_getD, hi']
  rw [e2]
  have hlt : i % z.size < z.size := Nat.mod_lt _ (hpos (by omega))
  have e3 : z.toList.getD (i % z.toList.length) undef = z[i % z.size]! := by
    rw [List.getD_eq_getElem?_getD]
    simp only [Array.length_toList, Array.getElem?_toList]
    rw [Array.getElem?_eq_getElem hlt, getElem!_pos z _ hlt]; rfl
  rw [e3]; exact .lit _
theorem mset_self (m : Mp) (b : Pa) (p : Pl) : mset m b p b = some p := by simp [mset]
theorem new_ptr (s : SR w0 m h w) {C : Array Value} {T : TypeId} {cs : List CV} (hr : AR m C 0 cs) {r : Result Next} (he : r = .ok (.value (.pointer (some ⟨w.heap.size, 0, none⟩))) (w.alloc (.cells C T))) : Did w0 m r (.ptr h.n 0) (h.new (.cells cs h.n)) :=
  ⟨_, _, _, mset_le s _, s.new_cells hr, Rp.ptr h.n 0 _ (mset_self _ _ _), .inl he⟩
theorem new_sl (s : SR w0 m h w) {C : Array Value} {T : TypeId} {cs : List CV} (hr : AR m C 0 cs) {r : Result Next} {n sz c c' : Nat} {x : Bool} (hn : n ≤ c') (hc : c ≤ c') (hx : x = true → c' = c) (hN : c' * sz ≤ C.size) (he : r = .ok (.value (.slice (some ⟨w.heap.size, 0, none⟩) n c')) (w.alloc (.cells C T))) : Did w0 m r (.sl h.n 0 n sz c x) (h.new (.cells cs h.n)) :=
  ⟨_, _, _, mset_le s _, s.new_cells hr, Rp.sl h.n 0 n sz c x c' 0 _ (mset_self _ _ _) hn hc hx (by simpa using hN) (.inl rfl), .inl he⟩
theorem info_of {t : TypeId} {n : Nat} (hs : szT P t = some n) : ∃ i, P.info? t = some i ∧ i.size = n := by
  unfold szT at hs
  split at hs
  · rename_i i hi; injection hs with hs; exact ⟨i, hi, hs⟩
  · cases hs
theorem zero_of {t : TypeId} {i : TypeInfo} (hi : P.info? t = some i) {z : Value} (hz : zeroT P t = some z) : i.zero = some z := by
  unfold zeroT at hz; rw [hi] at hz; exact hz
theorem bytes_of {t : TypeId} {i : TypeInfo} (hi : P.info? t = some i) {n : Nat} (hz : bytesT P t = some n) : i.bytes = n := by
  unfold bytesT at hz; rw [hi] at hz; injection hz
theorem storeC_run (s : SR w0 m h w) {t : TypeId} {c x : CV} {v u : Value} (hv : Rp m v c) (hu : Rp m u x) {h' : Hp} (hc : storeC P h t c x = some h') : ∃ w', SR w0 m h' w' ∧ (Instr.storeAt t v u).run P w = .ok () w' := by
  unfold storeC at hc
  split at hc
  case h_2 => cases hc
  rename_i b o
  split at hc
  case h_2 => cases hc
  rename_i n hn
  split at hc
  case h_2 => cases hc
  rename_i ds hds
  split at hc
  case h_2 => cases hc
  rename_i cs g hb
  split at hc
  case h_2 => cases hc
  rename_i hck
  simp only [Bool.and_eq_true] at hck
  obtain ⟨⟨c1, c2⟩, c3⟩ := hck
  have c1 := Nat.eq_of_beq_eq_true c1
  have c2 := Nat.le_of_ble_eq_true c2
  injection hc with hc; subst hc
  have hd := cellsC_rep hu hds
  cases hv with
  | ptr _ _ p hp =>
    have h2 := s.store hb hp hd (j := o) (by omega)
    refine ⟨_, h2, ?_⟩
    obtain ⟨p', C, T, fz, e1, e2, e3, e4, e5⟩ := s.blk b _ hb
    rw [hp] at e1; injection e1 with e1; subst e1
    have h5 := e5.1
    have hlen := hd.1
    have := run_storeCells_cells (P := P) p.r (p.o + o) u.cells.toList 0 w (fun j hj => by
        have hlt : p.o + o + j < C.size := by omega
        simp only [World.cell?, e2]
        simp [Array.getElem?_eq_getElem hlt]) (fun j hj => by
        simp only [World.frozen?, e2]
        have := e4.old (p.o + o + j) (by omega)
        simpa using this) (ones_rep hd c3)
    simp only [Nat.add_zero] at this
    have hsz : u.cells.size = n := by simpa [c1] using hlen
    simp [Instr.storeAt, Instr.sureAddr, storeVar, szT_run hn, hsz, this]
theorem srcC_run (s : SR w0 m h w) {t : TypeId} {sz : Nat} {x : CV} {v : Value} (hx : Rp m v x) {k : Nat} {ds : List CV} (hc : srcC P h t sz x = some (k, ds)) (h1 : ds.all oneC = true) : ∃ news, LR m news ds ∧ Src P sz t v k news w := by
  unfold srcC at hc
  split at hc
  · rename_i e hu
    split at hc
    · simp only [Option.some.injEq, Prod.mk.injEq] at hc
      obtain ⟨rfl, rfl⟩ := hc
      rw [hx.lit_eq]
      exact ⟨[], LR.nil, Src.ofNil w hu 0⟩
    · rename_i b o n sz' c1 x1
      split at hc
      case h_2 => cases hc
      rename_i cs g hb
      split at hc
      case h_2 => cases hc
      rename_i hck
      rw [Bool.and_eq_true] at hck
      have c1 := Nat.eq_of_beq_eq_true hck.1
      have c2 := Nat.le_of_ble_eq_true hck.2
      subst c1
      simp only [Option.some.injEq, Prod.mk.injEq] at hc
      obtain ⟨rfl, rfl⟩ := hc
      obtain ⟨p, C, T, fz, e1, e2, e3, e4, e5⟩ := s.blk b _ hb
      have h5 := e5.1
      have hlr : LR m ((C.toList.drop (p.o + o)).take (n * sz)) ((cs.drop o).take (n * sz)) := by
        refine ⟨by simp; omega, fun i hi => ?_⟩
        have hi2 : i < n * sz := by simp at hi; omega
        have := e5.2 (o + i) (by omega)
        simpa [List.getD_eq_getElem?_getD, Array.getD_eq_getD_getElem?, List.getElem?_take, hi2, Nat.add_assoc] using this
      cases hx with
      | sl _ _ _ _ _ _ c' q p' hp hn2 hcc hxx hN hq =>
        rw [e1] at hp; injection hp with hp; subst hp
        refine ⟨_, hlr, Src.ofSlice w hu ⟨p.r, q, none⟩ n c' _ (by simp; omega) (fun j u hj => ?_) (ones_rep hlr h1)⟩
        have hjl : j < n * sz := by have := (List.getElem?_eq_some_iff.1 hj).1; simp at this; omega
        have hn0 : 0 < n := by
          rcases Nat.eq_zero_or_pos n with rfl | hp
          · simp at hjl
          · exact hp
        have hq2 : q = p.o + o := by omega
        subst hq2
        rw [Addr.add_mid]
        simp only [World.cell?, e2]
        simp only [List.getElem?_take, hjl, if_true, List.getElem?_drop] at hj
        rw [← Array.getElem?_toList]; simpa using hj
    · cases hc
  · rename_i hu
    split at hc
    case h_2 => cases hc
    rename_i s'
    split at hc
    case h_2 => cases hc
    rename_i hz
    have hz := Nat.eq_of_beq_eq_true hz
    subst hz
    simp only [Option.some.injEq, Prod.mk.injEq] at hc
    obtain ⟨rfl, rfl⟩ := hc
    rw [hx.lit_eq]
    refine ⟨byteCells s', ?_, Src.ofString w hu s'⟩
    have := LR.map_lit (m := m) (byteCells s')
    have e : (byteCells s').map CV.lit = s'.data.toList.map fun b => CV.lit (.int .u8 b.toNat) := by
      simp [byteCells, List.map_map, Function.comp_def]
    rwa [e] at this
  · cases hc
theorem born_modify (E : List MapEntry) (j : Nat) (f : MapEntry → MapEntry) (hf : ∀ e, (f e).born = e.born) : (E.modify j f).map (·.born) = E.map (·.born) := by
  apply List.ext_getElem?
  intro i
  simp only [List.getElem?_map, List.getElem?_modify]
  cases E[i]? with
  | none => rfl
  | some e => simp only [Option.map_eq_map, Option.map_some]; split <;> simp [hf]
theorem born_erase (E : List MapEntry) (j : Nat) : (E.eraseIdx j).map (·.born) = (E.map (·.born)).eraseIdx j := by
  apply List.ext_getElem?
  intro i
  simp only [List.getElem?_map, List.getElem?_eraseIdx]
  split <;> rfl
theorem mapSetC_run (s : SR w0 m h w) {t : TypeId} {c k x : CV} {v u y : Value} (hv : Rp m v c) (hk : Rp m u k) (hy : Rp m y x) {h' : Hp} (hc : mapSetC P h t c k x = some h') : ∃ w', SR w0 m h' w' ∧ (Instr.mapUpdate t v u y).run P w = .ok () w' := by
  unfold mapSetC at hc
  split at hc
  case h_2 => cases hc
  rename_i kt e hu
  split at hc
  case h_2 => cases hc
  rename_i b
  split at hc
  case h_2 => cases hc
  rename_i es bs ck hb
  split at hc
  case h_2 => cases hc
  rename_i kv hkv
  have hkk := fixC_eq hk hkv
  subst hkk
  split at hc
  case h_2 => cases hc
  rename_i hko
  have hchk := fun em => keyOk_check hko em w
  obtain ⟨p, E, clk, e1, e2, e3, e4, e5, e6⟩ := s.blk b _ hb
  subst e6
  have hE : ER m E.toList es := ⟨by simpa using e3, fun i hi => by simpa [Array.getD_eq_getD_getElem?, List.getD_eq_getElem?_getD] using e4 i hi⟩
  cases hv with
  | mp _ p' hp =>
  rw [e1] at hp; injection hp with hp; subst hp
  have hlt := (s.dom b p e1).2.2
  have fin : ∀ (E' : Array MapEntry) (clk' : Nat) (es' : List (Value × CV)) (bs' : List Nat), ER m E'.toList es' → E'.toList.map (·.born) = bs' → SR w0 m { h with t := Tr.set (some (.map es' bs' clk')) b h.t } { w with heap := w.heap.setIfInBounds p.r (.map E' clk') } := fun E' clk' es' bs' hE' hB' => by
    refine s.turn (k := .map es bs clk) hb rfl (k' := .map es' bs' clk') rfl e1 ⟨rfl, rfl, rfl, by simp, fun j hj => ?_⟩ ?_ (fun r hr => ?_)
    · have := (s.dom b p e1).2.1.1
      simp only [Array.getElem?_setIfInBounds]
      rw [if_neg (by omega)]
    · refine ⟨p, E', clk', e1, by simp [hlt], by simpa using hE'.1, fun i hi => ?_, hB', rfl⟩
      have := hE'.2 i hi
      simpa [Array.getD_eq_getD_getElem?, List.getD_eq_getElem?_getD] using this
    · simp only [Array.getElem?_setIfInBounds]
      rw [if_neg (fun e => hr e.symm)]
  split at hc
  · rename_i j hf
    split at hc
    case h_2 => cases hc
    rename_i hsb
    injection hc with hc; subst hc
    obtain ⟨q, q1, q2, rfl⟩ := findE_run hE hf
    have hkey := (hE.2 j q2).1
    have hjE : j < E.size := by rw [e3]; exact q2
    have hold : ((E[j]?).map (·.key)).getD u = (es.getD j default).1 := by
      rw [← hkey, Array.getElem?_eq_getElem hjE]
      simp [List.getD_eq_getElem?_getD, Array.getElem?_eq_getElem hjE]
    refine ⟨_, fin (E.modify j fun e => { e with key := u, val := y }) clk _ _ ⟨?_, fun i hi => ?_⟩ ?_, ?_⟩
    · simp [← e3]
    · have hi' : i < es.length := by simpa using hi
      have hiE : i < E.size := by rw [e3]; exact hi'
      by_cases hij : j = i
      · subst hij
        simp [List.getD_eq_getElem?_getD, Array.getElem?_modify, hiE, hi', hy]
      · have := hE.2 i hi'
        simpa [List.getD_eq_getElem?_getD, Array.getElem?_modify, hij, List.getElem?_set] using this
    · rw [Array.toList_modify]; refine Eq.trans (born_modify _ _ _ ?_) e5; intro e; rfl
    · have hks : (Instr.keyThatStays ((E[j]?.map (·.key)).getD u) u).run P w = .ok u w := by
        rw [hold]; unfold Instr.keyThatStays; rw [if_pos hsb]; rfl
      simp [Instr.mapUpdate, run_underlying hu, MapKept.run_getObj_map e2, hchk, q1, hks, MapKept.run_setObj_map _ e2]
  · rename_i hf
    injection hc with hc; subst hc
    obtain ⟨q, q1, rfl⟩ := findE_run hE hf
    refine ⟨_, fin (E.push { key := u, val := y, born := clk }) (clk + 1) _ _ ⟨by simp [← e3], fun i hi => ?_⟩ (by simp [e5]), ?_⟩
    · by_cases hij : i < es.length
      · have hiE : i < E.size := by rw [e3]; exact hij
        have := hE.2 i hij
        simpa [List.getD_eq_getElem?_getD, List.getElem?_append_left hij, List.getElem?_append_left (show i < E.toList.length by simpa using hiE)] using this
      · have : i = es.length := by simp at hi; omega
        subst this
        have hEl : E.toList.length = es.length := hE.1
        simp [List.getD_eq_getElem?_getD, List.getElem?_append_right, hEl, hy, e3]
    · simp [Instr.mapUpdate, run_underlying hu, MapKept.run_getObj_map e2, hchk, q1, MapKept.run_setObj_map _ e2]
  · cases hc
theorem mapEntC_run (s : SR w0 m h w) {t : TypeId} {c k : CV} {v u : Value} (hv : Rp m v c) (hk : Rp m u k) {r : CV} {h' : Hp} (hc : mapEntC P h t c k = some (r, h')) : ∃ y w', Rp m y r ∧ SR w0 m h' w' ∧ (Instr.mapEntry t v u).run P w = .ok y w' := by
  unfold mapEntC at hc
  split at hc
  case h_2 => cases hc
  rename_i kt e hu
  split at hc
  case h_2 => cases hc
  rename_i b
  split at hc
  case h_2 => cases hc
  rename_i es bs ck hb
  split at hc
  case h_2 => cases hc
  rename_i kv hkv
  have hkk := fixC_eq hk hkv
  subst hkk
  split at hc
  case h_2 => cases hc
  rename_i hko
  have hchk := fun em => keyOk_check hko em w
  obtain ⟨p, E, clk, e1, e2, e3, e4, e5, e6⟩ := s.blk b _ hb
  subst e6
  have hE : ER m E.toList es := ⟨by simpa using e3, fun i hi => by simpa [Array.getD_eq_getD_getElem?, List.getD_eq_getElem?_getD] using e4 i hi⟩
  cases hv with
  | mp _ p' hp =>
  rw [e1] at hp; injection hp with hp; subst hp
  have hlt := (s.dom b p e1).2.2
  have fin : ∀ (E' : Array MapEntry) (clk' : Nat) (es' : List (Value × CV)) (bs' : List Nat), ER m E'.toList es' → E'.toList.map (·.born) = bs' → SR w0 m { h with t := Tr.set (some (.map es' bs' clk')) b h.t } { w with heap := w.heap.setIfInBounds p.r (.map E' clk') } := fun E' clk' es' bs' hE' hB' => by
    refine s.turn (k := .map es bs clk) hb rfl (k' := .map es' bs' clk') rfl e1 ⟨rfl, rfl, rfl, by simp, fun j hj => ?_⟩ ?_ (fun r hr => ?_)
    · have := (s.dom b p e1).2.1.1
      simp only [Array.getElem?_setIfInBounds]
      rw [if_neg (by omega)]
    · refine ⟨p, E', clk', e1, by simp [hlt], by simpa using hE'.1, fun i hi => ?_, hB', rfl⟩
      have := hE'.2 i hi
      simpa [Array.getD_eq_getD_getElem?, List.getD_eq_getElem?_getD] using this
    · simp only [Array.getElem?_setIfInBounds]
      rw [if_neg (fun e => hr e.symm)]
  split at hc
  · rename_i j hf
    split at hc
    case h_2 => cases hc
    rename_i hsb
    simp only [Option.some.injEq, Prod.mk.injEq] at hc
    obtain ⟨rfl, rfl⟩ := hc
    obtain ⟨q, q1, q2, rfl⟩ := findE_run hE hf
    have hkey := (hE.2 j q2).1
    have hval := (hE.2 j q2).2
    have hjE : j < E.size := by rw [e3]; exact q2
    have hold : ((E[j]?).map (·.key)).getD u = (es.getD j default).1 := by
      rw [← hkey, Array.getElem?_eq_getElem hjE]
      simp [List.getD_eq_getElem?_getD, Array.getElem?_eq_getElem hjE]
    have hborn : (E[j]'hjE).born = bs[j]?.getD 0 := by
      rw [← e5, List.getElem?_map, Array.getElem?_toList, Array.getElem?_eq_getElem hjE]; rfl
    refine ⟨.tuple [(E.toList.getD j default).val, .int .i64 (bs.getD j 0)].toArray, _, .tup _ _ rfl (LR.cons hval (LR.cons (.lit _) LR.nil)).2, fin (E.modify j fun e => { e with key := u }) clk _ _ ⟨by simp [← e3], fun i hi => ?_⟩ (by rw [Array.toList_modify]; refine Eq.trans (born_modify _ _ _ ?_) e5; intro e; rfl), ?_⟩
    · have hi' : i < es.length := by simpa using hi
      have hiE : i < E.size := by rw [e3]; exact hi'
      by_cases hij : j = i
      · subst hij
        have := hval
        simp only [List.getD_eq_getElem?_getD, Array.getElem?_toList, Array.getElem?_eq_getElem hiE, List.getElem?_eq_getElem hi', Option.getD_some] at this
        simp [List.getD_eq_getElem?_getD, Array.getElem?_modify, hiE, hi', this]
      · have := hE.2 i hi'
        simpa [List.getD_eq_getElem?_getD, Array.getElem?_modify, hij, List.getElem?_set] using this
    · have hks : (Instr.keyThatStays ((E[j]?.map (·.key)).getD u) u).run P w = .ok u w := by
        rw [hold]; unfold Instr.keyThatStays; rw [if_pos hsb]; rfl
      have hks' := hks
      simp only [Array.getElem?_eq_getElem hjE, Option.map_some, Option.getD_some] at hks'
      simp [Instr.mapEntry, run_underlying hu, MapKept.run_getObj_map e2, hchk, q1, hks, MapKept.run_setObj_map _ e2, goInt, Array.getElem?_eq_getElem hjE, hborn, hks']
  · rename_i hf
    split at hc
    case h_2 => cases hc
    rename_i z hz
    simp only [Option.some.injEq, Prod.mk.injEq] at hc
    obtain ⟨rfl, rfl⟩ := hc
    obtain ⟨q, q1, rfl⟩ := findE_run hE hf
    refine ⟨.tuple [z, .int .i64 clk].toArray, _, .tup _ _ rfl (LR.cons (.lit _) (LR.cons (.lit _) LR.nil)).2, fin (E.push { key := u, val := z, born := clk }) (clk + 1) _ _ ⟨by simp [← e3], fun i hi => ?_⟩ (by simp [e5]), ?_⟩
    · by_cases hij : i < es.length
      · have hiE : i < E.size := by rw [e3]; exact hij
        have := hE.2 i hij
        simpa [List.getD_eq_getElem?_getD, List.getElem?_append_left hij, List.getElem?_append_left (show i < E.toList.length by simpa using hiE)] using this
      · have : i = es.length := by simp at hi; omega
        subst this
        have hEl : E.toList.length = es.length := hE.1
        simp [List.getD_eq_getElem?_getD, List.getElem?_append_right, hEl, e3]
        exact .lit _
    · simp [Instr.mapEntry, run_underlying hu, MapKept.run_getObj_map e2, hchk, q1, MapKept.run_setObj_map _ e2, zeroT_run hz, goInt]
  · cases hc
theorem findB_run {n : Int} : ∀ {E : List MapEntry} {i j : Nat}, findB n (E.map (·.born)) i = some j → i ≤ j ∧ E.findIdx? (fun e => (e.born : Int) == n) = some (j - i) ∧ j - i < E.length
  | [], i, j, h => by simp [findB] at h
  | e :: E, i, j, h => by
    simp only [List.map_cons, findB] at h
    split at h
    · rename_i hd
      injection h with h; subst h
      have : ((e.born : Int) == n) = true := by simpa using hd
      exact ⟨Nat.le_refl _, by rw [List.findIdx?_cons, this]; simp, by simp⟩
    · rename_i hd
      have : ((e.born : Int) == n) = false := by simpa using hd
      obtain ⟨h1, h2, h3⟩ := findB_run h
      refine ⟨by omega, ?_, by simp; omega⟩
      rw [List.findIdx?_cons, this]
      simp only [Bool.false_eq_true, if_false, h2, Option.map_some]
      congr 1; omega
theorem entStoreC_run (s : SR w0 m h w) {t : TypeId} {c k x : CV} {v u y : Value} (hv : Rp m v c) (hk : Rp m u k) (hy : Rp m y x) {h' : Hp} (hc : entStoreC h c k x = some h') : ∃ w', SR w0 m h' w' ∧ (Instr.entryStore t v u y).run P w = .ok () w' := by
  unfold entStoreC at hc
  split at hc
  case h_2 => cases hc
  rename_i b
  split at hc
  case h_2 => cases hc
  rename_i es bs ck hb
  split at hc
  case h_2 => cases hc
  rename_i kd n
  have hk := hk.lit_eq
  subst hk
  split at hc
  case h_2 => cases hc
  rename_i j hj
  injection hc with hc; subst hc
  obtain ⟨p, E, clk, e1, e2, e3, e4, e5, e6⟩ := s.blk b _ hb
  subst e6
  have hE : ER m E.toList es := ⟨by simpa using e3, fun i hi => by simpa [Array.getD_eq_getD_getElem?, List.getD_eq_getElem?_getD] using e4 i hi⟩
  cases hv with
  | mp _ p' hp =>
  rw [e1] at hp; injection hp with hp; subst hp
  have hlt := (s.dom b p e1).2.2
  rw [← e5] at hj
  obtain ⟨_, f1, f2⟩ := findB_run hj
  simp only [Nat.sub_zero] at f1 f2
  have hjl : j < es.length := by rw [← hE.1]; exact f2
  have hjE : j < E.size := by simpa using f2
  have f3 : E.findIdx? (fun e => (e.born : Int) == n) = some j := by
    have := List.findIdx?_toArray (fun e : MapEntry => (e.born : Int) == n) E.toList
    rw [Array.toArray_toList] at this
    rw [this]; exact f1
  refine ⟨{ w with heap := w.heap.setIfInBounds p.r (.map (E.modify j fun e => { e with val := y }) clk) }, ?_, ?_⟩
  · refine s.turn (k := .map es bs clk) hb rfl (k' := .map (es.set j ((es.getD j default).1, x)) bs clk) rfl e1 ⟨rfl, rfl, rfl, by simp, fun j hj => ?_⟩ ?_ (fun r hr => ?_)
    · have := (s.dom b p e1).2.1.1
      simp only [Array.getElem?_setIfInBounds]
      rw [if_neg (by omega)]
    · refine ⟨p, E.modify j fun e => { e with val := y }, clk, e1, by simp [hlt], by simp [e3], fun i hi => ?_, by rw [Array.toList_modify]; refine Eq.trans (born_modify _ _ _ ?_) e5; intro e; rfl, rfl⟩
      have hi' : i < es.length := by simpa using hi
      have hiE : i < E.size := by rw [e3]; exact hi'
      have := e4 i hi'
      by_cases hij : j = i
      · subst hij
        simp only [Array.getD_eq_getD_getElem?, List.getD_eq_getElem?_getD, Array.getElem?_eq_getElem hiE, List.getElem?_eq_getElem hi', Option.getD_some] at this
        simp [Array.getD_eq_getD_getElem?, List.getD_eq_getElem?_getD, Array.getElem_modify, Array.getElem?_modify, hiE, hi', hy, this.1]
      · simpa [Array.getD_eq_getD_getElem?, List.getD_eq_getElem?_getD, Array.getElem?_modify, hij, List.getElem?_set] using this
    · simp only [Array.getElem?_setIfInBounds]
      rw [if_neg (fun e => hr e.symm)]
  · simp [Instr.entryStore, MapKept.run_getObj_map e2, asInt, asIntOf, f3, MapKept.run_setObj_map _ e2]
theorem mapDelC_run (s : SR w0 m h w) {t : TypeId} {c k : CV} {v u : Value} (hv : Rp m v c) (hk : Rp m u k) {h' : Hp} (hc : mapDelC P h t c k = some h') (ts : Array TypeId) (t2 : TypeId) (hts : ts.toList = [t, t2]) (ty : TypeId) (vs : Array Value) (hvs : vs.toList = [v, u]) : ∃ w', SR w0 m h' w' ∧ (Builtin.delete_ ts ty vs).run P w = .ok undef w' := by
  have h0 : ts[0]? = some t := by rw [← Array.getElem?_toList, hts]; rfl
  have h1 : vs[0]? = some v := by rw [← Array.getElem?_toList, hvs]; rfl
  have h2 : vs[1]? = some u := by rw [← Array.getElem?_toList, hvs]; rfl
  unfold mapDelC at hc
  split at hc
  case h_2 => cases hc
  rename_i kt e hu
  split at hc
  case h_2 => cases hc
  rename_i b
  split at hc
  case h_2 => cases hc
  rename_i es bs ck hb
  split at hc
  case h_2 => cases hc
  rename_i kv hkv
  have hkk := fixC_eq hk hkv
  subst hkk
  split at hc
  case h_2 => cases hc
  rename_i hko
  have hchk := fun em => keyOk_check hko em w
  obtain ⟨p, E, clk, e1, e2, e3, e4, e5, e6⟩ := s.blk b _ hb
  subst e6
  have hE : ER m E.toList es := ⟨by simpa using e3, fun i hi => by simpa [Array.getD_eq_getD_getElem?, List.getD_eq_getElem?_getD] using e4 i hi⟩
  cases hv with
  | mp _ p' hp =>
  rw [e1] at hp; injection hp with hp; subst hp
  have hlt := (s.dom b p e1).2.2
  have fin : ∀ (E' : Array MapEntry) (clk' : Nat) (es' : List (Value × CV)) (bs' : List Nat), ER m E'.toList es' → E'.toList.map (·.born) = bs' → SR w0 m { h with t := Tr.set (some (.map es' bs' clk')) b h.t } { w with heap := w.heap.setIfInBounds p.r (.map E' clk') } := fun E' clk' es' bs' hE' hB' => by
    refine s.turn (k := .map es bs clk) hb rfl (k' := .map es' bs' clk') rfl e1 ⟨rfl, rfl, rfl, by simp, fun j hj => ?_⟩ ?_ (fun r hr => ?_)
    · have := (s.dom b p e1).2.1.1
      simp only [Array.getElem?_setIfInBounds]
      rw [if_neg (by omega)]
    · refine ⟨p, E', clk', e1, by simp [hlt], by simpa using hE'.1, fun i hi => ?_, hB', rfl⟩
      have := hE'.2 i hi
      simpa [Array.getD_eq_getD_getElem?, List.getD_eq_getElem?_getD] using this
    · simp only [Array.getElem?_setIfInBounds]
      rw [if_neg (fun e => hr e.symm)]
  split at hc
  · rename_i j hf
    injection hc with hc; subst hc
    obtain ⟨q, q1, q2, rfl⟩ := findE_run hE hf
    have hjE : j < E.size := by rw [e3]; exact q2
    refine ⟨_, fin (E.eraseIdxIfInBounds j) clk _ _ ⟨?_, fun i hi => ?_⟩ ?_, ?_⟩
    · have hj2 : j < E.toList.length := by simpa using hjE
      simp [Array.eraseIdxIfInBounds, hjE, List.length_eraseIdx, q2, e3]
    · have hi' : i < es.length - 1 := by simpa [List.length_eraseIdx, q2] using hi
      have hcase : ∀ i', i' < es.length → (E.toList.getD i' default).key = (es.getD i' default).1 ∧ Rp m (E.toList.getD i' default).val (es.getD i' default).2 := hE.2
      simp only [Array.eraseIdxIfInBounds, hjE, dif_pos, Array.toList_eraseIdx, List.getD_eq_getElem?_getD, List.getElem?_eraseIdx]
      split
      · have := hcase i (by omega); simpa [List.getD_eq_getElem?_getD] using this
      · have := hcase (i + 1) (by omega); simpa [List.getD_eq_getElem?_getD] using this
    · simp only [Array.eraseIdxIfInBounds, hjE, dif_pos, Array.toList_eraseIdx]
      rw [born_erase, e5]
    · simp [Builtin.delete_, h0, h1, h2, run_underlying hu, MapKept.run_getObj_map e2, hchk, q1, MapKept.run_setObj_map _ e2, undef]
  · rename_i hf
    injection hc with hc; subst hc
    obtain ⟨q, q1, rfl⟩ := findE_run hE hf
    have hw : { w with heap := w.heap.setIfInBounds p.r (.map E clk) } = w := by
      have : w.heap.setIfInBounds p.r (.map E clk) = w.heap := by
        apply Array.ext_getElem?
        intro i
        rw [Array.getElem?_setIfInBounds]
        split
        · rename_i he; subst he; first | rw [if_pos hlt, e2] | rw [e2]
        · rfl
      rw [this]
    refine ⟨w, s, ?_⟩
    simp [Builtin.delete_, h0, h1, h2, run_underlying hu, MapKept.run_getObj_map e2, hchk, q1, MapKept.run_setObj_map _ e2, undef, hw]
  · cases hc
theorem push_in (s : SR w0 m h w) {b : Pa} {cs : List CV} {g : Pa} (hb : h.t.get b = some (.cells cs g)) {p : Pl} (hp : m b = some p) {L pre post : List Pa} (hL : h.g.get g = some L) (hcut : cutAt b L = some (pre, post)) {o : Nat} (ho : o ≤ cs.length) {news : List Value} {ds : List CV} (hr : LR m news ds) (hroom : p.o + cs.length + ds.length ≤ p.N) :
    SR w0 (mset m h.n ⟨p.r, p.o + o, p.N⟩) (h.push b (cs.drop o ++ ds) g pre post) (w.setCells p.r (p.o + cs.length) news) := by
  obtain ⟨p', C, T, fz, e1, e2, e3, e4, e5⟩ := s.blk b _ hb
  rw [hp] at e1; injection e1 with e1; subst e1
  have hdom := s.dom b p hp
  have hle := mset_le s ⟨p.r, p.o + o, p.N⟩
  have hblk := setCells_block p.r news (p.o + cs.length) w C T fz e2
  have hlen := hr.1
  refine s.push hb hp hL hcut (p' := ⟨p.r, p.o + o, p.N⟩) (setCells_below (by have := hdom.2.1.1; omega) _ _ _ (Below.refl _ w)) hdom.2.1 (by rw [setCells_size]; exact hdom.2.2) ?_ (fun r _ hne => setCells_other _ _ _ _ _ hne) (.inr ⟨rfl, by simp; omega, fun c ds' q hc hq hqr hend => ?_⟩)
  · refine ⟨_, _, T, fz, mset_self _ _ _, hblk, by rw [spV_size]; exact e3, fun i hi => e4 i (by rwa [spV_size] at hi), by simp [spV_size]; omega, fun i hi => ?_⟩
    simp only [List.length_append, List.length_drop] at hi
    by_cases hlt : i < cs.length - o
    · have h1 : (spV (p.o + cs.length) news C).getD (p.o + o + i) undef = C.getD (p.o + (o + i)) undef := by
        rw [spV_out _ _ _ _ _ (.inl (by omega)), Nat.add_assoc]
      have h2 : (cs.drop o ++ ds).getD i .any = cs.getD (o + i) .any := by
        rw [List.getD_eq_getElem?_getD, List.getElem?_append_left (by simp; omega)]
        simp [List.getD_eq_getElem?_getD]
      rw [h1, h2]
      exact (e5.2 (o + i) (by omega)).mono hle
    · obtain ⟨j, rfl⟩ : ∃ j, i = cs.length - o + j := ⟨i - (cs.length - o), by omega⟩
      have h1 : (spV (p.o + cs.length) news C).getD (p.o + o + (cs.length - o + j)) undef = news.getD j undef := by
        rw [show p.o + o + (cs.length - o + j) = p.o + cs.length + j by omega]
        exact spV_in _ _ _ _ _ (by omega) (by omega)
      have h2 : (cs.drop o ++ ds).getD (cs.length - o + j) .any = ds.getD j .any := by
        rw [List.getD_eq_getElem?_getD, List.getElem?_append_right (by simp)]
        simp [List.getD_eq_getElem?_getD]
      rw [h1, h2]
      exact (hr.2 j (by omega)).mono hle
  · obtain ⟨q', C', T', fz', k1, k2, k3, k4, k5⟩ := s.blk c _ hc
    rw [hq] at k1; injection k1 with k1; subst k1
    rw [hqr, e2] at k2
    injection k2 with k2; injection k2 with k2 k2' k2''
    subst k2 k2' k2''
    refine ⟨q, _, T, fz, hle _ _ hq, by rw [hqr]; exact hblk, by rw [spV_size]; exact k3, fun i hi => e4 i (by rwa [spV_size] at hi), by rw [spV_size]; exact k5.1, fun i hi => ?_⟩
    rw [spV_out _ _ _ _ _ (.inl (by omega))]
    exact (k5.2 i hi).mono hle
theorem push_new (s : SR w0 m h w) {b : Pa} {cs : List CV} {g : Pa} (hb : h.t.get b = some (.cells cs g)) {p : Pl} (hp : m b = some p) {L pre post : List Pa} (hL : h.g.get g = some L) (hcut : cutAt b L = some (pre, post)) {C : Array Value} {T : TypeId} {es : List CV} (hr : AR m C 0 es) :
    SR w0 (mset m h.n ⟨w.heap.size, 0, C.size⟩) (h.push b es g pre post) (w.drew.alloc (.cells C T)) := by
  have hbel : Below w.heap.size w (w.drew.alloc (.cells C T)) := (Below.refl _ w).drew.alloc (Nat.le_refl _) _
  have hsz := s.bel.offAt (Nat.le_refl _)
  refine s.push hb hp hL hcut (p' := ⟨w.heap.size, 0, C.size⟩) (hbel.mono s.bel.1.size) hsz (by show w.heap.size < (w.heap.push _).size; simp) ?_ (fun r hr _ => hbel.block r hr) (.inl (Nat.le_refl _))
  refine ⟨_, C, T, (0, 0), mset_self _ _ _, ?_, rfl, fun i _ hi => by omega, hr.mono (mset_le s _)⟩
  show (w.heap.push _)[w.heap.size]? = _
  simp
theorem olds_run (s : SR w0 m h w) {b : Pa} {cs : List CV} {g : Pa} (hb : h.t.get b = some (.cells cs g)) {p : Pl} (hp : m b = some p) {o n sz q n' c' : Nat} (hq : q = p.o + o ∨ n = 0) (hle : o + n * sz ≤ cs.length) : ∃ olds, LR m olds ((cs.drop o).take (n * sz)) ∧ (Builtin.firstCells sz n (.slice (some ⟨p.r, q, none⟩) n' c')).run P w.drew = .ok olds.toArray w.drew ∧ olds.length = n * sz := by
  obtain ⟨p', C, T, fz, e1, e2, e3, e4, e5⟩ := s.blk b _ hb
  rw [hp] at e1; injection e1 with e1; subst e1
  have h5 := e5.1
  have hl : ((C.toList.drop (p.o + o)).take (n * sz)).length = n * sz := by simp; omega
  refine ⟨(C.toList.drop (p.o + o)).take (n * sz), ⟨by rw [hl]; simp; omega, fun i hi => ?_⟩, ?_, hl⟩
  · have hi2 : i < n * sz := by simp at hi; omega
    have := e5.2 (o + i) (by omega)
    simpa [List.getD_eq_getElem?_getD, Array.getD_eq_getD_getElem?, List.getElem?_take, hi2, Nat.add_assoc] using this
  · refine run_firstCells_some (P := P) w.drew sz n ⟨p.r, q, none⟩ n' c' _ hl (fun j u hj => ?_)
    have hjl : j < n * sz := by have := (List.getElem?_eq_some_iff.1 hj).1; rw [hl] at this; exact this
    have hq2 : q = p.o + o := by
      rcases hq with hq | hq
      · exact hq
      · subst hq; simp at hjl
    subst hq2
    rw [Addr.add_mid]
    show w.cell? _ = _
    simp only [World.cell?, e2]
    simp only [List.getElem?_take, hjl, if_true, List.getElem?_drop] at hj
    rw [← Array.getElem?_toList]; simpa using hj
theorem appZ_run (s : SR w0 m h w) {t tx : TypeId} {c x r : CV} {v u : Value} (hv : Rp m v c) (hu : Rp m u x) {h' : Hp} (hc : appZ P h t tx c x = some (r, h')) (ty : TypeId) : ∃ m' v' w', MLe m m' ∧ SR w0 m' h' w' ∧ Rp m' v' r ∧ (Builtin.append_ #[t, tx] ty #[v, u]).run P w = .ok v' w' := by
  unfold appZ at hc
  split at hc
  case h_2 => cases hc
  rename_i e kn ht htx
  split at hc
  case h_2 => cases hc
  rename_i z bt zv hz hbt hzv
  split at hc
  case h_2 => cases hc
  rename_i ki k'
  split at hc
  case h_2 => cases hc
  rename_i hck
  simp only [Bool.and_eq_true] at hck
  obtain ⟨⟨c0, c1⟩, c2⟩ := hck
  have hzs := Nat.eq_of_beq_eq_true c0
  have c1 := Nat.le_of_ble_eq_true c1
  have c2 := Nat.le_of_ble_eq_true c2
  simp only [Option.some.injEq, Prod.mk.injEq] at hc
  obtain ⟨rfl, rfl⟩ := hc
  obtain ⟨i, hi, hiz⟩ := info_of hz
  have hiz : i.size = z + 1 := hiz
  have hiv := zero_of hi hzv
  have hib := bytes_of hi hbt
  subst hib
  rw [hv.lit_eq, hu.lit_eq]
  have hg := Lib.run_append_nil_zeros (P := P) w t tx ty e i zv ki kn ht htx hi hiv (k' + 1) (by omega) (by omega) (by omega) (by omega)
  have hge := grownCap_ge w (k' + 1) 0 e
  have hpos : 0 < zv.cells.size := by omega
  have hzc : ∀ n, (Builtin.zeroCells zv.cells n).toList = (madeCells zv.cells (n * zv.cells.size)).toList := fun n => by
    simp [Builtin.zeroCells, madeCells]
  have hlr : LR m (Builtin.zeroCells zv.cells (k' + 1)).toList (zerosC zv.cells.toList ((k' + 1) * (z + 1))) := by
    rw [hzc, hzs]
    exact zerosC_lr zv.cells _ (fun _ => hpos)
  refine ⟨_, _, _, mset_le s.drew _, s.drew.new_cells (C := Builtin.zeroCells zv.cells (k' + 1) ++ Builtin.zeroCells zv.cells (grownCap w (k' + 1) 0 e - (k' + 1))) (T := e) ?_, Rp.sl h.n 0 (k' + 1) (z + 1) (k' + 1) false (grownCap w (k' + 1) 0 e) 0 _ (mset_self _ _ _) hge hge (fun h => by cases h) ?_ (.inl rfl), hg⟩
  · have := AR.of2 (D := Builtin.zeroCells zv.cells (grownCap w (k' + 1) 0 e - (k' + 1))) hlr
    simpa using this
  · simp only [Array.size_append, size_zeroCells, hzs]
    have h2 : (k' + 1) * (z + 1) + (grownCap w (k' + 1) 0 e - (k' + 1)) * (z + 1) = grownCap w (k' + 1) 0 e * (z + 1) := by rw [← Nat.add_mul, Nat.add_sub_cancel' hge]
    simp; omega
theorem appC_run (s : SR w0 m h w) {t tx : TypeId} {c x r : CV} {v u : Value} (hv : Rp m v c) (hu : Rp m u x) {h' : Hp} (hc : appC P h t tx c x = some (r, h')) (ty : TypeId) : ∃ m' v' w', MLe m m' ∧ SR w0 m' h' w' ∧ Rp m' v' r ∧ (Builtin.append_ #[t, tx] ty #[v, u]).run P w = .ok v' w' := by
  unfold appC at hc
  split at hc
  case h_2 => cases hc
  rename_i e ht
  split at hc
  case h_2 => cases hc
  rename_i z bt zv hz hbt hzv
  split at hc
  · cases hc
  rename_i k ds hsrc
  split at hsrc
  case h_2 => cases hsrc
  rename_i hzs
  have hzs := Nat.eq_of_beq_eq_true hzs
  split at hc
  · cases hc
  rename_i hone
  obtain ⟨i, hi, hiz⟩ := info_of hz
  have hiz : i.size = z + 1 := hiz
  have hiv := zero_of hi hzv
  have hib := bytes_of hi hbt
  subst hib
  obtain ⟨news, hnews, hS⟩ := srcC_run (P := P) s hu hsrc hone
  rw [← hiz] at hS
  have hnl : ds.length = k * i.size := by rw [← hnews.1]; exact hS.newsLen
  have hnl2 := hnews.1
  split at hc
  · -- nothing so far
    have hcv := hv.lit_eq
    subst hcv
    split at hc
    · simp only [Option.some.injEq, Prod.mk.injEq] at hc
      obtain ⟨rfl, rfl⟩ := hc
      refine ⟨m, _, w, MLe.refl m, s, .lit _, ?_⟩
      exact run_append_nothing w t tx ty e i ht hi none 0 0 (Nat.le_refl _) u (by
        have : news = [] := List.length_eq_zero_iff.1 (by rw [hnews.1, hnl]; simp)
        rw [← this]; exact hS)
    · rename_i k'
      have hnl : ds.length = (k' + 1) * i.size := hnl
      split at hc
      case h_2 => cases hc
      rename_i hck
      rw [Bool.and_eq_true] at hck
      have c1 := Nat.le_of_ble_eq_true hck.1
      have c2 := Nat.le_of_ble_eq_true hck.2
      simp only [Option.some.injEq, Prod.mk.injEq] at hc
      obtain ⟨rfl, rfl⟩ := hc
      have hg := run_append_grow_src (P := P) w t tx ty e i zv ht hi hiv none 0 0 [] (run_firstCells_none w.drew i.size 0 0 0) u (k' + 1) news hS (by omega) (by omega) (growslice_fits (by omega) (by simpa using c1))
      simp only [Nat.zero_add, List.nil_append] at hg
      have hge := grownCap_ge w (k' + 1) 0 e
      refine ⟨_, _, _, mset_le s.drew _, s.drew.new_cells (C := news.toArray ++ Builtin.zeroCells zv.cells (grownCap w (k' + 1) 0 e - (k' + 1))) (T := e) (AR.of2 hnews), Rp.sl h.n 0 (k' + 1) (z + 1) (k' + 1) false (grownCap w (k' + 1) 0 e) 0 _ (mset_self _ _ _) hge hge (fun h => by cases h) ?_ (.inl rfl), hg⟩
      simp only [Array.size_append, size_zeroCells, hzs]
      have h1 : news.length = (k' + 1) * (z + 1) := by rw [hnl2, hnl, hiz]
      have h2 : (k' + 1) * (z + 1) + (grownCap w (k' + 1) 0 e - (k' + 1)) * (z + 1) = grownCap w (k' + 1) 0 e * (z + 1) := by rw [← Nat.add_mul, Nat.add_sub_cancel' hge]
      simp [h1]; omega
  · rename_i b o n sz cc xx
    split at hc
    · cases hc
    rename_i hsz
    have hsz := Nat.eq_of_beq_eq_true hsz
    subst hsz
    split at hc
    case h_2 => cases hc
    rename_i cs g hb
    cases hv with
    | sl _ _ _ _ _ _ c' q p hp hn hcc hxx hN hq =>
    obtain ⟨p', C, T, fz, e1, e2, e3, e4, e5⟩ := s.blk b _ hb
    have e1' := e1
    rw [hp] at e1'; injection e1' with e1'; subst e1'
    have h5 := e5.1
    split at hc
    · simp only [Option.some.injEq, Prod.mk.injEq] at hc
      obtain ⟨rfl, rfl⟩ := hc
      refine ⟨m, _, w, MLe.refl m, s, Rp.sl b o n (z + 1) cc xx c' q p hp hn hcc hxx hN hq, ?_⟩
      exact run_append_nothing w t tx ty e i ht hi _ n c' hn u (by
        have : news = [] := List.length_eq_zero_iff.1 (by rw [hnews.1, hnl]; simp)
        rw [← this]; exact hS)
    · rename_i k'
      have hnl : ds.length = (k' + 1) * i.size := hnl
      have hmul : (n + (k' + 1)) * (z + 1) = n * (z + 1) + (k' + 1) * (z + 1) := Nat.add_mul _ _ _
      split at hc
      · -- surely in its own row
        rename_i hroom
        have hroom := Nat.le_of_ble_eq_true hroom
        split at hc
        case h_2 => cases hc
        rename_i hfit
        have hfit := Nat.le_of_ble_eq_true hfit
        simp only [Option.some.injEq, Prod.mk.injEq] at hc
        obtain ⟨rfl, rfl⟩ := hc
        have hq2 : q = p.o + o := by omega
        subst hq2
        have hst := s.store hb hp hnews (j := o + n * (z + 1)) (by rw [hnl, hiz]; omega)
        refine ⟨m, _, _, MLe.refl m, hst, Rp.sl b o (n + (k' + 1)) (z + 1) cc xx c' _ p hp (by omega) hcc hxx hN (.inl rfl), ?_⟩
        have hrun := run_append_room_src (P := P) w t tx ty e i ht hi p.r (p.o + o) n c' u (k' + 1) news hS (by omega) (fun j hj => by
          have hlt : p.o + o + n * i.size + j < C.size := by rw [hiz]; rw [hnl2, hnl, hiz] at hj; omega
          simp only [World.cell?, e2]
          simp [Array.getElem?_eq_getElem hlt]) (fun j hj => by
          have hlt : p.o + o + n * i.size + j < C.size := by rw [hiz]; rw [hnl2, hnl, hiz] at hj; omega
          simp only [World.frozen?, e2]
          simpa using e4.old _ hlt)
        rw [hiz] at hrun
        rw [hrun, Nat.add_assoc p.o]
      · rename_i hnroom
        split at hc
        · cases hc
        rename_i hck
        simp only [Bool.and_eq_true] at hck
        obtain ⟨⟨c1, c2⟩, c3⟩ := hck
        have c1 := Nat.le_of_ble_eq_true c1
        have c2 := Nat.le_of_ble_eq_true c2
        have c3 := Nat.le_of_ble_eq_true c3
        obtain ⟨olds, ho1, ho2, ho3⟩ := olds_run (P := P) s hb hp (o := o) (n := n) (sz := z + 1) (q := q) (n' := n) (c' := c') (by omega) c3
        rw [← hiz] at ho2
        have grow : c' < n + (k' + 1) → (Builtin.append_ #[t, tx] ty #[.slice (some ⟨p.r, q, none⟩) n c', u]).run P w = .ok (.slice (some ⟨w.heap.size, 0, none⟩) (n + (k' + 1)) (grownCap w (n + (k' + 1)) c' e)) (w.drew.alloc (.cells ((olds ++ news).toArray ++ Builtin.zeroCells zv.cells (grownCap w (n + (k' + 1)) c' e - (n + (k' + 1)))) e)) := fun hlt =>
          run_append_grow_src (P := P) w t tx ty e i zv ht hi hiv _ n c' olds ho2 u (k' + 1) news hS hlt (by omega) (growslice_fits hlt c1)
        have hge := grownCap_ge w (n + (k' + 1)) c' e
        have hcsz : ((olds ++ news).toArray ++ Builtin.zeroCells zv.cells (grownCap w (n + (k' + 1)) c' e - (n + (k' + 1)))).size = grownCap w (n + (k' + 1)) c' e * (z + 1) := by
          simp only [Array.size_append, size_zeroCells, hzs]
          have h1 : news.length = (k' + 1) * (z + 1) := by rw [hnl2, hnl, hiz]
          have h2 : (n + (k' + 1)) * (z + 1) + (grownCap w (n + (k' + 1)) c' e - (n + (k' + 1))) * (z + 1) = grownCap w (n + (k' + 1)) c' e * (z + 1) := by rw [← Nat.add_mul, Nat.add_sub_cancel' hge]
          simp [h1, ho3]; omega
        split at hc
        · -- the capacity is known: a new row
          split at hc
          case h_2 => cases hc
          simp only [Option.some.injEq, Prod.mk.injEq] at hc
          obtain ⟨rfl, rfl⟩ := hc
          have hce := hxx rfl
          have hlt : c' < n + (k' + 1) := by
            subst hce
            apply Classical.byContradiction
            intro hge2
            have : Nat.ble (n + (k' + 1)) c' = true := Nat.ble_eq_true_of_le (by omega)
            rw [this] at hnroom; cases hnroom
          exact ⟨_, _, _, mset_le s.drew _, s.drew.new_cells (T := e) (AR.of2 (ho1.append hnews)), Rp.sl h.n 0 _ (z + 1) _ false _ 0 _ (mset_self _ _ _) hge hge (fun h => by cases h) (by show 0 + 0 + _ ≤ _; rw [hcsz]; simp) (.inl rfl), grow hlt⟩
        · split at hc
          · cases hc
          rename_i hck2
          rw [Bool.and_eq_true] at hck2
          have c4 := Nat.eq_of_beq_eq_true hck2.1
          split at hc
          · cases hc
          rename_i L hL
          split at hc
          · cases hc
          rename_i pre post hcut
          simp only [Option.some.injEq, Prod.mk.injEq] at hc
          obtain ⟨rfl, rfl⟩ := hc
          have htake : (cs.drop o).take (n * (z + 1)) = cs.drop o := List.take_of_length_le (by simp; omega)
          rw [htake] at ho1
          by_cases hlt : c' < n + (k' + 1)
          · exact ⟨_, _, _, mset_le s _, push_new s hb hp hL hcut (T := e) (AR.of2 (ho1.append hnews)), Rp.sl h.n 0 _ (z + 1) _ false _ 0 _ (mset_self _ _ _) hge hge (fun h => by cases h) (by show 0 + 0 + _ ≤ _; rw [hcsz]; simp) (.inl rfl), grow hlt⟩
          · have hq2 : q = p.o + o := by omega
            subst hq2
            have hm2 : (n + (k' + 1)) * (z + 1) ≤ c' * (z + 1) := Nat.mul_le_mul_right _ (by omega)
            have hin := push_in s hb hp hL hcut (o := o) (by omega) hnews (by rw [hnl, hiz]; omega)
            refine ⟨_, _, _, mset_le s _, hin, Rp.sl h.n 0 (n + (k' + 1)) (z + 1) (n + (k' + 1)) false c' (p.o + o) ⟨p.r, p.o + o, p.N⟩ (mset_self _ _ _) (by omega) (by omega) (fun h => by cases h) hN (.inl rfl), ?_⟩
            have hrun := run_append_room_src (P := P) w t tx ty e i ht hi p.r (p.o + o) n c' u (k' + 1) news hS (by omega) (fun j hj => by
              have hlt : p.o + o + n * i.size + j < C.size := by rw [hiz]; rw [hnl2, hnl, hiz] at hj; omega
              simp only [World.cell?, e2]
              simp [Array.getElem?_eq_getElem hlt]) (fun j hj => by
              have hlt : p.o + o + n * i.size + j < C.size := by rw [hiz]; rw [hnl2, hnl, hiz] at hj; omega
              simp only [World.frozen?, e2]
              simpa using e4.old _ hlt)
            rw [hiz] at hrun
            rw [hrun, show p.o + o + n * (z + 1) = p.o + cs.length by omega]
  · cases hc
end
end Go.Proofs.YtboopmfjkepilaaGreatDoor.Run
