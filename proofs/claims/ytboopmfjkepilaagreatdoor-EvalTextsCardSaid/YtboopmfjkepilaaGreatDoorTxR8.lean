/-
  Texts of one proof, in their order. No condition.
-/
import Derived.Laws.IdiomStrings
import Derived.Laws.Cover4
import Derived.Test.YtboopmfjkepilaaGreatDoorTxR7
namespace Go.Proofs.YtboopmfjkepilaaGreatDoor.Run
open Go.RowKit
set_option linter.unusedVariables false
set_option linter.unusedSimpArgs false
section
variable {P : Program} {w0 : Bs} {m : Mp} {h : Hp} {w : World} {a : Act} {f : Fr}
theorem u8L_spec : ∀ {cs : List CV} {l : List UInt8}, u8L cs = some l → cs.length = l.length ∧ ∀ i (hi : i < l.length), cs.getD i .any = .lit (.int .u8 (l[i].toNat : Int))
  | [], l, h => by
    simp only [u8L, Option.some.injEq] at h
    subst h
    exact ⟨rfl, fun i hi => absurd hi (Nat.not_lt_zero _)⟩
  | c :: cs, l, h => by
    unfold u8L at h
    split at h
    · rename_i heq; cases heq
    · rename_i n r heq
      injection heq with e1 e2
      subst e1 e2
      split at h
      · rename_i hb
        have hb : n < 256 := Nat.le_of_ble_eq_true hb
        split at h
        · rename_i l' hl'
          injection h with h; subst h
          obtain ⟨h1, h2⟩ := u8L_spec hl'
          refine ⟨by simp [h1], fun i hi => ?_⟩
          cases i with
          | zero =>
            have : (UInt8.ofNat n).toNat = n := by simp [UInt8.toNat_ofNat']; omega
            simp only [List.getD_cons_zero, List.getElem_cons_zero, this]
            rfl
          | succ i => simpa using h2 i (by simpa using hi)
        · cases h
      · cases h
    · cases h
theorem i32L_spec : ∀ {cs : List CV} {l : List Int}, i32L cs = some l → cs = l.map fun n => .lit (.int .i32 n)
  | [], l, h => by simp only [i32L, Option.some.injEq] at h; subst h; rfl
  | c :: r, l, h => by
    unfold i32L at h
    split at h
    · rename_i he; cases he
    · rename_i n r' he
      injection he with e1 e2
      subst e1 e2
      split at h
      · rename_i l' hl
        injection h with h; subst h
        rw [i32L_spec hl]; rfl
      · cases h
    · cases h
theorem runesB_eq (l : List Int) : runesBytes l = runesB l := by
  have key : ∀ (l : List Int) (s : ByteArray), (l.foldl (fun r n => r ++ Utf8.encode n) s).data.toList = s.data.toList ++ l.flatMap fun n => (Utf8.encode n).data.toList := by
    intro l
    induction l with
    | nil => intro s; simp
    | cons n l ih => intro s; rw [List.foldl_cons, ih]; simp [List.append_assoc]
  unfold runesBytes runesB
  apply ByteArray.ext
  rw [← Array.toList_inj, key]
  simp
theorem convC_run (s : SR w0 m h w) {src dst : TypeId} {x c : CV} {v : Value} (hx : Rp m v x) (hc : convC P h src dst x = some c) : ∃ r, Rp m r c ∧ (convert src dst v).run P w = .ok r w := by
  unfold convC at hc
  split at hc
  · rename_i d k h1 h2
    split at hc
    case h_2 => cases hc
    rw [litI_eq] at hc
    injection hc with hc; subst hc
    rw [hx.lit_eq]
    refine ⟨_, .lit _, ?_⟩
    cases d <;> simp [convert, run_underlying h1, run_underlying h2, Conv.intToInt]
  · rename_i e h1 h2
    split at hc
    · rename_i he
      split at hc
      · injection hc with hc; subst hc
        rw [hx.lit_eq]
        exact ⟨_, .lit _, by simp [convert, run_underlying h1, run_underlying h2, run_underlying he, Conv.bytesToString]; rfl⟩
      · rename_i b o n c1 x1
        split at hc
        case h_2 => cases hc
        rename_i cs g hb
        split at hc
        case h_2 => cases hc
        rename_i hle
        have hle := Nat.le_of_ble_eq_true hle
        split at hc
        case h_2 => cases hc
        rename_i l hl
        injection hc with hc; subst hc
        obtain ⟨l1, l2⟩ := u8L_spec hl
        have hn : l.length = n := by rw [← l1]; simp; omega
        obtain ⟨p, C, T, fz, e1, e2, e3, e4, e5⟩ := s.blk b _ hb
        cases hx with
        | sl _ _ _ _ _ _ c' q p' hp hn2 hcc hxx hN hq =>
          rw [e1] at hp; injection hp with hp; subst hp
          refine ⟨_, .lit _, ?_⟩
          subst hn
          refine run_convert_bytes_back w src dst e ⟨p.r, q, none⟩ c' l h1 he h2 (fun j hj => ?_)
          have hq2 : q = p.o + o := by omega
          subst hq2
          have h5 := e5.2 (o + j) (by omega)
          have h6 := l2 j hj
          have h7 : cs.getD (o + j) .any = .lit (.int .u8 (l[j].toNat : Int)) := by
            rw [← h6]
            simp [List.getD_eq_getElem?_getD, List.getElem?_take, hj]
          rw [h7] at h5
          have h8 := h5.lit_eq
          have h9 := e5.1
          simp only [Addr.add_mid, World.cell?, e2]
          rw [Array.getD_eq_getD_getElem?, Array.getElem?_eq_getElem (by omega)] at h8
          rw [show p.o + o + j = p.o + (o + j) by omega, Array.getElem?_eq_getElem (by omega)]
          simpa using h8
      · cases hc
    · rename_i he
      split at hc
      · injection hc with hc; subst hc
        rw [hx.lit_eq]
        exact ⟨_, .lit _, by simp [convert, run_underlying h1, run_underlying h2, run_underlying he, Conv.runesToString]; rfl⟩
      · rename_i b o n c1 x1
        split at hc
        case h_2 => cases hc
        rename_i cs g hb
        split at hc
        case h_2 => cases hc
        rename_i hle
        have hle := Nat.le_of_ble_eq_true hle
        split at hc
        case h_2 => cases hc
        rename_i l hl
        injection hc with hc; subst hc
        have l1 := i32L_spec hl
        have hn : l.length = n := by
          have := congrArg List.length l1
          simp at this; omega
        obtain ⟨p, C, T, fz, e1, e2, e3, e4, e5⟩ := s.blk b _ hb
        cases hx with
        | sl _ _ _ _ _ _ c' q p' hp hn2 hcc hxx hN hq =>
          rw [e1] at hp; injection hp with hp; subst hp
          refine ⟨_, .lit _, ?_⟩
          subst hn
          have hload := run_loadCells_list (P := P) w ⟨p.r, q, none⟩ (l.map (Value.int .i32)) (fun j v hj => by
            have hj' : j < l.length := by
              have := (List.getElem?_eq_some_iff.1 hj).1
              simpa using this
            have hq2 : q = p.o + o := by omega
            subst hq2
            have h5 := e5.2 (o + j) (by omega)
            have h7 : cs.getD (o + j) .any = .lit (.int .i32 l[j]) := by
              have := congrArg (fun x => x[j]?) l1
              simp only [List.getElem?_take, hj', if_true, List.getElem?_drop, List.getElem?_map, List.getElem?_eq_getElem hj', Option.map_some] at this
              rw [List.getD_eq_getElem?_getD, this]; rfl
            rw [h7] at h5
            have h8 := h5.lit_eq
            have h9 := e5.1
            simp only [Addr.add_mid, World.cell?, e2]
            rw [Array.getD_eq_getD_getElem?, Array.getElem?_eq_getElem (by omega)] at h8
            rw [show p.o + o + j = p.o + (o + j) by omega, Array.getElem?_eq_getElem (by omega)]
            rw [List.getElem?_map, List.getElem?_eq_getElem hj'] at hj
            simp only [Option.map_some, Option.some.injEq] at hj
            rw [← hj]
            simpa using h8)
          simp only [List.length_map] at hload
          have hr := run_runesToString w ⟨p.r, q, none⟩ l.length c' l hload
          rw [runesB_eq] at hr
          simp only [convert, Sem.run_bind, run_underlying h1, run_underlying h2, run_underlying he, Result.andThen]
          exact hr
      · cases hc
    · cases hc
  · rename_i k h1 h2
    split at hc
    case h_2 => cases hc
    injection hc with hc; subst hc
    rw [hx.lit_eq]
    exact ⟨_, .lit _, by simp [convert, run_underlying h1, run_underlying h2, Conv.intToString]⟩
  · rename_i h1 h2
    split at hc
    case h_2 => cases hc
    injection hc with hc; subst hc
    rw [hx.lit_eq]
    exact ⟨_, .lit _, by simp [convert, run_underlying h1, run_underlying h2]⟩
  · cases hc
theorem minF_run {mx : Bool} : ∀ {xs : List CV} {us : List Value} {u0 : Value} {x0 c : CV}, LR m us xs → Rp m u0 x0 → minF mx x0 xs = some c → ∃ r, Rp m r c ∧ ∀ w, (us.foldlM (if mx then Builtin.max2 else Builtin.min2) u0).run P w = .ok r w
  | [], us, u0, x0, c, hr, h0, hc => by
    obtain rfl : us = [] := List.length_eq_zero_iff.1 hr.1
    simp only [minF, Option.some.injEq] at hc
    subst hc
    exact ⟨u0, h0, fun w => rfl⟩
  | y :: xs, [], u0, x0, c, hr, h0, hc => by simp [LR] at hr
  | y :: xs, u :: us, u0, x0, c, hr, h0, hc => by
    obtain ⟨h1, h2⟩ := hr.hd
    simp only [minF] at hc
    split at hc
    case h_2 => cases hc
    rename_i z hz
    unfold min2C at hz
    split at hz
    · rename_i k a k' b
      have e0 := h0.lit_eq
      have e1 := h1.lit_eq
      subst e0 e1
      cases mx with
      | false =>
        simp only [litI_eq, Option.some.injEq] at hz
        subst hz
        obtain ⟨r, r1, r2⟩ := minF_run h2 (.lit _) hc
        refine ⟨r, r1, fun w => ?_⟩
        have := r2 w
        simpa [List.foldlM_cons, Builtin.min2] using this
      | true =>
        simp only [litI_eq, Option.some.injEq] at hz
        subst hz
        obtain ⟨r, r1, r2⟩ := minF_run h2 (.lit _) hc
        refine ⟨r, r1, fun w => ?_⟩
        have := r2 w
        simpa [List.foldlM_cons, Builtin.max2] using this
    · cases hz
theorem capC_run {t : TypeId} {x c : CV} {v : Value} (hx : Rp m v x) (hc : capC P t x = some c) (ts : Array TypeId) (rest : List TypeId) (hts : ts.toList = t :: rest) (ty : TypeId) (vs : Array Value) (vr : List Value) (hvs : vs.toList = v :: vr) (w : World) : ∃ r, Rp m r c ∧ (Builtin.cap_ ts ty vs).run P w = .ok r w := by
  have h0 : ts[0]? = some t := by rw [← Array.getElem?_toList, hts]; rfl
  have h1 : vs[0]? = some v := by rw [← Array.getElem?_toList, hvs]; rfl
  unfold capC at hc
  split at hc
  · rename_i n e hu
    rw [litI_eq] at hc
    injection hc with hc; subst hc
    exact ⟨_, .lit _, by simp [Builtin.cap_, h0, h1, run_underlying hu, goInt]⟩
  · rename_i e hu
    split at hc
    · rw [litI_eq] at hc
      injection hc with hc; subst hc
      cases hx with
      | sl _ _ _ _ _ _ c' q p' hp hn2 hcc hxx hN hq =>
        have := hxx rfl
        subst this
        exact ⟨_, .lit _, by simp [Builtin.cap_, h0, h1, run_underlying hu, goInt]⟩
    · rw [litI_eq] at hc
      injection hc with hc; subst hc
      rw [hx.lit_eq] at h1
      exact ⟨_, .lit _, by simp [Builtin.cap_, h0, h1, run_underlying hu, goInt]⟩
    · cases hc
  · cases hc
theorem lenC_run (s : SR w0 m h w) {t : TypeId} {x c : CV} {v : Value} (hx : Rp m v x) (hc : lenC P h t x = some c) (ts : Array TypeId) (rest : List TypeId) (hts : ts.toList = t :: rest) (ty : TypeId) (vs : Array Value) (vr : List Value) (hvs : vs.toList = v :: vr) : ∃ r, Rp m r c ∧ (Builtin.len_ ts ty vs).run P w = .ok r w := by
  have h0 : ts[0]? = some t := by rw [← Array.getElem?_toList, hts]; rfl
  have h1 : vs[0]? = some v := by rw [← Array.getElem?_toList, hvs]; rfl
  unfold lenC at hc
  split at hc
  · rename_i hu
    split at hc
    case h_2 => cases hc
    rename_i s'
    rw [litI_eq] at hc
    injection hc with hc; subst hc
    rw [hx.lit_eq] at h1
    refine ⟨_, .lit _, ?_⟩
    simp [Builtin.len_, h0, h1, run_underlying hu, goInt]
  · rename_i n e hu
    rw [litI_eq] at hc
    injection hc with hc; subst hc
    exact ⟨_, .lit _, by simp [Builtin.len_, h0, h1, run_underlying hu, goInt]⟩
  · rename_i e hu
    split at hc
    · rw [litI_eq] at hc
      injection hc with hc; subst hc
      cases hx with
      | sl _ _ _ _ _ _ c' q p' hp hn2 hcc hxx hN hq =>
        exact ⟨_, .lit _, by simp [Builtin.len_, h0, h1, run_underlying hu, goInt]⟩
    · rw [litI_eq] at hc
      injection hc with hc; subst hc
      rw [hx.lit_eq] at h1
      exact ⟨_, .lit _, by simp [Builtin.len_, h0, h1, run_underlying hu, goInt]⟩
    · rename_i lo hi
      injection hc with hc; subst hc
      cases hx with
      | abs _ _ hh =>
        obtain ⟨p, n, c, rfl, hl, hh⟩ := hh
        exact ⟨.int .i64 n, .abs _ _ ⟨n, rfl, by omega, by omega⟩, by simp [Builtin.len_, h0, h1, run_underlying hu, goInt]⟩
    · cases hc
  · rename_i k e hu
    split at hc
    case h_2 => cases hc
    rename_i es hes
    rw [litI_eq] at hc
    injection hc with hc; subst hc
    refine ⟨_, .lit _, ?_⟩
    rcases entriesC_run s hx hes with ⟨rfl, rfl⟩ | ⟨r, E, clk, rfl, h2, h3⟩
    · simp [Builtin.len_, h0, h1, run_underlying hu, goInt]
    · have := h3.1
      simp at this
      simp [Builtin.len_, h0, h1, run_underlying hu, goInt, MapKept.run_getObj_map h2, this]
  · cases hc
theorem opP_run (s : SR w0 m h w) (hf : FR m a f) (o : Oper) {c : CV} (hc : opP P (evO f) h o.op = some c) : ∃ v, Rp m v c ∧ (execOp a.eval o).run P w = .ok (.value v) w := by
  unfold opP at hc
  split at hc
  · rename_i x ho
    injection hc with hc; subst hc
    exact ⟨_, hf.ev x, by simp [execOp, ho]⟩
  · rename_i x ho
    injection hc with hc; subst hc
    exact ⟨_, hf.ev x, by simp [execOp, ho]⟩
  · rename_i c1 x y ho
    split at hc
    case h_2 => cases hc
    rename_i t ht
    have h1 := hf.ev c1
    rw [ht] at h1
    have h2 := h1.lit_eq
    injection hc with hc
    cases t with
    | true => subst hc; exact ⟨_, hf.ev x, by simp [execOp, ho, h2, asBool]⟩
    | false => subst hc; exact ⟨_, hf.ev y, by simp [execOp, ho, h2, asBool]⟩
  · rename_i t parts ho
    obtain ⟨v, h1, h2⟩ := buildC_run hf.ev hc
    exact ⟨v, h1, by simp [execOp, ho, h2]⟩
  · rename_i t x ho
    split at hc
    case h_2 => cases hc
    rename_i b o' hx
    have h1 := hf.ev x
    rw [hx] at h1
    obtain ⟨v, p, k1, k2, k3⟩ := load_rep (P := P) s hc
    generalize hv : a.eval x = u at h1
    cases h1 with
    | ptr _ _ p' hp =>
      rw [k2] at hp; injection hp with hp; subst hp
      exact ⟨v, k1, by simp [execOp, ho, hv, Instr.loadAt, Instr.sureAddr, k3]⟩
  · rename_i x ho
    split at hc
    · rename_i b o' hx
      injection hc with hc; subst hc
      have h1 := hf.ev x
      rw [hx] at h1
      generalize hv : a.eval x = u at h1
      refine ⟨u, h1, ?_⟩
      cases h1 with
      | ptr _ _ p' hp => simp [execOp, ho, hv]
    · rename_i g u' v' hx
      injection hc with hc; subst hc
      have h1 := hf.ev x
      rw [hx] at h1
      generalize hv : a.eval x = u at h1
      refine ⟨u, h1, ?_⟩
      cases h1 with
      | fn => simp [execOp, ho, hv]
    · rename_i g hx
      injection hc with hc; subst hc
      have h1 := hf.ev x
      rw [hx] at h1
      generalize hv : a.eval x = u at h1
      refine ⟨u, h1, ?_⟩
      cases h1 with
      | yl => simp [execOp, ho, hv]
    · cases hc
  · rename_i op t x y yt ho
    obtain ⟨v, h1, h2⟩ := binC_run (P := P) hc (hf.ev x) (hf.ev y)
    refine ⟨v, h1, ?_⟩
    simp only [execOp, ho, Sem.run_bind]
    have := h2 w
    simp only [Sem.run_bind] at this
    simp [this]
  · rename_i op t x ho
    have h1 := hf.ev x
    unfold unC at hc
    split at hc
    · rename_i k n hx
      rw [hx] at h1
      have h2 := h1.lit_eq
      split at hc
      · rw [litI_eq] at hc; injection hc with hc; subst hc
        exact ⟨_, .lit _, by simp [execOp, ho, h2, Op.unary, Op.intArith]⟩
      · rw [litI_eq] at hc; injection hc with hc; subst hc
        exact ⟨_, .lit _, by simp [execOp, ho, h2, Op.unary, Op.intBits, bitsB]⟩
      · cases hc
    · rename_i b hx
      rw [hx] at h1
      have h2 := h1.lit_eq
      split at hc
      · injection hc with hc; subst hc
        exact ⟨_, .lit _, by simp [execOp, ho, h2, Op.unary]⟩
      · cases hc
    · cases hc
  · rename_i src dst x ho
    obtain ⟨v, h1, h2⟩ := convC_run (P := P) s (hf.ev x) hc
    exact ⟨v, h1, by simp [execOp, ho, h2]⟩
  · rename_i t x ho
    split at hc
    case h_2 => cases hc
    rename_i hi
    injection hc with hc; subst hc
    refine ⟨_, .ifc t _ _ (hf.ev x), ?_⟩
    unfold isIfaceT at hi
    split at hi
    · cases hi
    · rename_i d hnd hu
      simp only [execOp, ho, Instr.makeInterface, Sem.run_bind, run_underlying hu, Result.andThen_ok]
      cases d <;> first | exact absurd rfl (hnd _) | rfl
    · cases hi
  · rename_i fn first cap ho
    injection hc with hc; subst hc
    have h1 := hf.evs first.toList
    have h2 := hf.evs cap.toList
    refine ⟨_, .fn fn _ _ _ _ h1.1 h1.2 h2.1 h2.2, ?_⟩
    have e1 : (first.map a.eval) = (first.toList.map a.eval).toArray := by apply Array.ext'; simp
    have e2 : (cap.map a.eval) = (cap.toList.map a.eval).toArray := by apply Array.ext'; simp
    simp only [execOp, ho, Instr.makeFunc, e1, e2]
    simp
  · rename_i t x lo hi mx ho
    obtain ⟨v, h1, h2⟩ := sliceC_run hf.ev hc
    exact ⟨v, h1, by simp [execOp, ho, h2]⟩
  · rename_i t x i ho
    obtain ⟨v, h1, h2⟩ := fieldAddrC_run (hf.ev x) hc
    exact ⟨v, h1, by simp [execOp, ho, h2]⟩
  · rename_i t x i ho
    obtain ⟨v, h1, h2⟩ := fieldC_run (hf.ev x) hc
    exact ⟨v, h1, by simp [execOp, ho, h2]⟩
  · rename_i t x i ho
    obtain ⟨v, h1, h2⟩ := indexAddrC_run (hf.ev x) (hf.ev i) hc
    exact ⟨v, h1, by simp [execOp, ho, h2]⟩
  · rename_i t x i ho
    obtain ⟨v, h1, h2⟩ := indexC_run (hf.ev x) (hf.ev i) hc
    exact ⟨v, h1, by simp [execOp, ho, h2]⟩
  · rename_i t x i ok ho
    obtain ⟨v, h1, h2⟩ := lookupC_run s (hf.ev x) (hf.ev i) hc
    exact ⟨v, h1, by simp [execOp, ho, h2]⟩
  · rename_i x xt t ok ho
    obtain ⟨v, h1, h2⟩ := assertC_run (xt := xt) (hf.ev x) hc
    exact ⟨v, h1, by simp [execOp, ho, h2]⟩
  · rename_i x i ho
    have h1 := hf.ev x
    split at hc
    · rename_i vs hx
      rw [hx] at h1
      generalize hv : a.eval x = u at h1
      cases h1 with
      | tup us _ hl hr =>
        obtain ⟨hi, rfl⟩ := List.getElem?_eq_some_iff.1 hc
        have h2 := hr i hi
        rw [List.getD_eq_getElem?_getD, List.getD_eq_getElem?_getD, List.getElem?_eq_getElem hi, List.getElem?_eq_getElem (by rw [hl]; exact hi)] at h2
        exact ⟨_, h2, by simp [execOp, ho, hv, Instr.extract, List.getElem?_eq_getElem (show i < us.length by rw [hl]; exact hi)]⟩
    · rename_i a' hx
      rw [hx] at h1
      have h2 := h1.lit_eq
      split at hc
      case h_2 => cases hc
      rename_i v hv
      injection hc with hc; subst hc
      rw [Array.getElem?_toList] at hv
      exact ⟨_, .lit _, by simp [execOp, ho, h2, Instr.extract, hv]⟩
    · cases hc
  · rename_i c1 ho
    split at hc
    · rename_i hb
      split at hc
      case h_2 => cases hc
      rename_i t rest ht
      split at hc
      case h_2 => cases hc
      rename_i x xs hx
      have hargs : (c1.args.map a.eval).toList = a.eval x :: xs.map a.eval := by simp [hx]
      obtain ⟨v, h1, h2⟩ := lenC_run (P := P) s (hf.ev x) hc c1.argTypes rest ht o.type (c1.args.map a.eval) _ hargs
      exact ⟨v, h1, by simp [execOp, ho, resolve, hb, invoke, builtin, h2]⟩
    · rename_i hb
      split at hc
      case h_2 => cases hc
      rename_i t rest ht
      split at hc
      case h_2 => cases hc
      rename_i x xs hx
      have hargs : (c1.args.map a.eval).toList = a.eval x :: xs.map a.eval := by simp [hx]
      obtain ⟨v, h1, h2⟩ := capC_run (P := P) (hf.ev x) hc c1.argTypes rest ht o.type (c1.args.map a.eval) _ hargs w
      exact ⟨v, h1, by simp [execOp, ho, resolve, hb, invoke, builtin, h2]⟩
    · rename_i hb
      unfold minC at hc
      split at hc
      · cases hc
      rename_i x r hx
      have h1 := hf.evs c1.args.toList
      rw [hx] at h1
      cases hargs : c1.args.toList.map a.eval with
      | nil => rw [hargs] at h1; simp [LR] at h1
      | cons u us =>
        rw [hargs] at h1
        obtain ⟨v, k1, k2⟩ := minF_run (P := P) (mx := false) h1.hd.2 h1.hd.1 hc
        refine ⟨v, k1, ?_⟩
        have := k2 w
        simp only [Bool.false_eq_true, if_false] at this
        have e1 : (c1.args.map a.eval).toList = u :: us := by rw [← hargs]; simp
        simp [execOp, ho, resolve, hb, invoke, builtin, Builtin.min_, hargs, this]
    · rename_i hb
      unfold minC at hc
      split at hc
      · cases hc
      rename_i x r hx
      have h1 := hf.evs c1.args.toList
      rw [hx] at h1
      cases hargs : c1.args.toList.map a.eval with
      | nil => rw [hargs] at h1; simp [LR] at h1
      | cons u us =>
        rw [hargs] at h1
        obtain ⟨v, k1, k2⟩ := minF_run (P := P) (mx := true) h1.hd.2 h1.hd.1 hc
        refine ⟨v, k1, ?_⟩
        have := k2 w
        simp only [if_true] at this
        simp [execOp, ho, resolve, hb, invoke, builtin, Builtin.max_, hargs, this]
    · cases hc
  · cases hc
end
end Go.Proofs.YtboopmfjkepilaaGreatDoor.Run
