/-
  Texts of one proof, in their order. No condition.
-/
import Derived.Test.YtboopmfjkepilaaGreatDoorTxR2
namespace Go.Proofs.YtboopmfjkepilaaGreatDoor.Run
open Go.RowKit
set_option linter.unusedVariables false
set_option linter.unusedSimpArgs false
def isConstO : Operand → Bool
  | .const _ => true
  | _ => false
def bitsB (op : BinOp) (k : IntKind) (x y : Int) : Int := k.wrap (match op with
  | .and => (BitVec.ofInt k.bits x &&& BitVec.ofInt k.bits y).toNat
  | .or => (BitVec.ofInt k.bits x ||| BitVec.ofInt k.bits y).toNat
  | .xor => (BitVec.ofInt k.bits x ^^^ BitVec.ofInt k.bits y).toNat
  | _ => (BitVec.ofInt k.bits x &&& ~~~(BitVec.ofInt k.bits y)).toNat : Nat)
def intB (op : BinOp) (k : IntKind) (a b : Int) : Option CV := match op with
  | .add => litI k (k.wrap (a + b))
  | .sub => litI k (k.wrap (a - b))
  | .mul => litI k (k.wrap (a * b))
  | .eql => some (.lit (.bool (a == b)))
  | .neq => some (.lit (.bool (a != b)))
  | .lss => some (.lit (.bool (decide (a < b))))
  | .leq => some (.lit (.bool (decide (a ≤ b))))
  | .gtr => some (.lit (.bool (decide (a > b))))
  | .geq => some (.lit (.bool (decide (a ≥ b))))
  | .and => litI k (bitsB .and k a b)
  | .or => litI k (bitsB .or k a b)
  | .xor => litI k (bitsB .xor k a b)
  | .andNot => litI k (bitsB .andNot k a b)
  | .quo => match decide (b = 0) with | true => none | false => litI k (k.wrap (a.tdiv b))
  | .rem => match decide (b = 0) with | true => none | false => litI k (a.tmod b)
  | _ => none
def strB (op : BinOp) (a b : ByteArray) : Option CV := match op with
  | .add => match Nat.ble (a.size + b.size) 9223372036854775807 with | true => some (.lit (.string (a ++ b))) | false => none
  | .eql => some (.lit (.bool (a.data.toList == b.data.toList)))
  | .neq => some (.lit (.bool !(a.data.toList == b.data.toList)))
  | .lss => some (.lit (.bool (Op.bytesLess a.data.toList b.data.toList)))
  | .leq => some (.lit (.bool (Op.bytesLess a.data.toList b.data.toList || a.data.toList == b.data.toList)))
  | .gtr => some (.lit (.bool !(Op.bytesLess a.data.toList b.data.toList || a.data.toList == b.data.toList)))
  | .geq => some (.lit (.bool !(Op.bytesLess a.data.toList b.data.toList)))
  | _ => none
def shB (op : BinOp) (k : IntKind) (a b : Int) : Option CV := match decide (b < 0) with
  | true => none
  | false => match op with
    | .shl => litI k (k.wrap (a * 2 ^ (min b.toNat k.bits)))
    | .shr => litI k (a.fdiv (2 ^ (min b.toNat k.bits)))
    | _ => none
variable (P : Program)
def eqFs (eq : TypeId → CV → CV → Option Bool) : List Field → List CV → List CV → Option Bool
  | [], _, _ => some true
  | f :: fs, xs, ys => match decide (f.name ≠ "_") with
    | false => none
    | true => match partC P f.type (xs.drop f.offset) with
      | some x => match partC P f.type (ys.drop f.offset) with
        | some y => match eq f.type x y with
          | some true => eqFs eq fs xs ys
          | some false => some false
          | none => none
        | none => none
      | none => none
def eqC : Nat → TypeId → CV → CV → Option Bool
  | 0, _, _, _ => none
  | d + 1, t, x, y => match P.underlying t with
    | some .bool => match x, y with
      | .lit (.bool a), .lit (.bool b) => some (a == b)
      | _, _ => none
    | some (.int _) => match x, y with
      | .lit (.int k a), .lit (.int k' b) => match decide (k = k') with | true => some (a == b) | false => none
      | _, _ => none
    | some .string => match x, y with
      | .lit (.string a), .lit (.string b) => some (a.data.toList == b.data.toList)
      | _, _ => none
    | some (.pointer e) => match x, y with
      | .lit (.pointer none), .lit (.pointer none) => some true
      | .ptr _ _, .lit (.pointer none) => some false
      | .lit (.pointer none), .ptr _ _ => some false
      | .ptr b o, .ptr b' o' => match decide (b = b') with
        | true => (match szT P e with | some (_ + 1) => some (Nat.beq o o') | _ => none)
        | false => none
      | _, _ => none
    | some (.interface _) => match x, y with
      | .lit .nilIface, .lit .nilIface => some true
      | .ifc _ _, .lit .nilIface => some false
      | .lit .nilIface, .ifc _ _ => some false
      | .ifc t a, .ifc u b => match decide (t = u) with
        | false => some false
        | true => match P.info? t with
          | some i => (match i.comparable with | true => eqC d t a b | false => none)
          | none => none
      | _, _ => none
    | some (.slice _) => match x, y with
      | .lit (.slice none 0 0), .lit (.slice none 0 0) => some true
      | .sl _ _ _ _ _ _, .lit (.slice none 0 0) => some false
      | .lit (.slice none 0 0), .sl _ _ _ _ _ _ => some false
      | _, _ => none
    | some (.map _ _) => match x, y with
      | .lit (.map none), .lit (.map none) => some true
      | .mp _, .lit (.map none) => some false
      | .lit (.map none), .mp _ => some false
      | _, _ => none
    | some (.func _ _ _) => match x, y with
      | .lit .nilFunc, .lit .nilFunc => some true
      | .fn _ _ _, .lit .nilFunc => some false
      | .lit .nilFunc, .fn _ _ _ => some false
      | _, _ => none
    | some (.struct fs) => match P.stoodInHeld t with
      | true => none
      | false => match aggC x, aggC y with
        | some xs, some ys => eqFs P (eqC d) fs.toList xs ys
        | _, _ => none
    | _ => none
def guardC (t : TypeId) (x y : CV) (xo yo : Operand) : Bool := match x, y with
  | .lit .nilIface, .lit .nilIface => isConstO xo || isConstO yo
  | x, y => match aggC x, aggC y with
    | some _, some _ => !(P.eqGuardType P.depth t)
    | _, _ => true
def rngB (op : BinOp) (lo hi b : Int) : Option Bool := match op with
  | .lss => match decide (hi < b) with | true => some true | false => match decide (b ≤ lo) with | true => some false | false => none
  | .leq => match decide (hi ≤ b) with | true => some true | false => match decide (b < lo) with | true => some false | false => none
  | .gtr => match decide (b < lo) with | true => some true | false => match decide (hi ≤ b) with | true => some false | false => none
  | .geq => match decide (b ≤ lo) with | true => some true | false => match decide (hi < b) with | true => some false | false => none
  | .eql => match decide (lo = b ∧ hi = b) with | true => some true | false => match decide (hi < b ∨ b < lo) with | true => some false | false => none
  | .neq => match decide (hi < b ∨ b < lo) with | true => some true | false => match decide (lo = b ∧ hi = b) with | true => some false | false => none
  | _ => none
def rngF (op : BinOp) (a lo hi : Int) : Option Bool := match op with
  | .lss => rngB .gtr lo hi a
  | .leq => rngB .geq lo hi a
  | .gtr => rngB .lss lo hi a
  | .geq => rngB .leq lo hi a
  | .eql => rngB .eql lo hi a
  | .neq => rngB .neq lo hi a
  | _ => none
def absL (op : BinOp) (a : Ab) (y : CV) : Option CV := match a with
  | .rng k lo hi => match y with
    | .lit (.int k' b) => match decide (k = k') with
      | true => match rngB op lo hi b with | some t => some (.lit (.bool t)) | none => none
      | false => none
    | _ => none
  | _ => none
def absR (op : BinOp) (x : CV) (a : Ab) : Option CV := match a with
  | .rng k lo hi => match x with
    | .lit (.int k' b) => match decide (k = k') with
      | true => match rngF op b lo hi with | some t => some (.lit (.bool t)) | none => none
      | false => none
    | _ => none
  | _ => none
def binC (op : BinOp) (t : TypeId) (x y : CV) (xo yo : Operand) : Option CV := match x, y with
  | .lit (.int k a), .lit (.int k' b) => match op with
    | .shl => shB .shl k a b
    | .shr => shB .shr k a b
    | op => match decide (k = k') with | true => intB op k a b | false => none
  | .lit (.string a), .lit (.string b) => strB op a b
  | .abs a, y => absL op a y
  | x, .abs a => absR op x a
  | x, y => match guardC P t x y xo yo with
    | false => none
    | true => match op with
      | .eql => match eqC P 10000 t x y with | some b => some (.lit (.bool b)) | none => none
      | .neq => match eqC P 10000 t x y with | some b => some (.lit (.bool (!b))) | none => none
      | _ => none
def unC (op : UnOp) (x : CV) : Option CV := match x with
  | .lit (.int k n) => match op with
    | .neg => litI k (k.wrap (0 - n))
    | .xor => litI k (bitsB .xor k (if k.signed then -1 else k.max) n)
    | _ => none
  | .lit (.bool b) => match op with | .not => some (.lit (.bool (!b))) | _ => none
  | _ => none
section
variable {P : Program} {w0 : Bs} {m : Mp} {h : Hp} {w : World} {a : Act} {f : Fr}
theorem intB_run {op : BinOp} {k : IntKind} {a b : Int} {c : CV} (hc : intB op k a b = some c) (h1 : op ≠ .shl) (h2 : op ≠ .shr) (t : TypeId) (xo yo : Operand) : ∃ v, c = .lit v ∧ ∀ w, (do eqGuard op t xo yo (.int k a) (.int k b); binOp op t (.int k a) (.int k b) : Sem Value).run P w = .ok v w := by
  cases op <;> simp only [intB, litI_eq, Option.some.injEq] at hc <;> first | contradiction | (subst hc; refine ⟨_, rfl, fun w => ?_⟩; simp [eqGuard, binOp, Op.intArith, Op.intCmp]; done) | (subst hc; refine ⟨_, rfl, fun w => ?_⟩; simp [eqGuard, binOp, Op.intBits, bitsB]; done) | skip
  all_goals
    split at hc
    · cases hc
    · rename_i hb
      have hb : ¬ b = 0 := of_decide_eq_false hb
      injection hc with hc; subst hc
      exact ⟨_, rfl, fun w => by simp [eqGuard, binOp, Op.intDiv, hb]⟩
theorem strB_run {op : BinOp} {a b : ByteArray} {c : CV} (hc : strB op a b = some c) (t : TypeId) (xo yo : Operand) : ∃ v, c = .lit v ∧ ∀ w, (do eqGuard op t xo yo (.string a) (.string b); binOp op t (.string a) (.string b) : Sem Value).run P w = .ok v w := by
  cases op <;> simp only [strB, Option.some.injEq] at hc <;> first | contradiction | (subst hc; refine ⟨_, rfl, fun w => ?_⟩; simp [eqGuard, binOp, Op.stringOp, ByteArray.toList_eq]; done) | skip
  split at hc
  · rename_i hle
    have hle := Nat.le_of_ble_eq_true hle
    injection hc with hc; subst hc
    refine ⟨_, rfl, fun w => ?_⟩
    simp [eqGuard, binOp, Op.stringOp]
    omega
  · cases hc
theorem shB_run {op : BinOp} {k k' : IntKind} {a b : Int} {c : CV} (hc : shB op k a b = some c) (t : TypeId) (xo yo : Operand) : ∃ v, c = .lit v ∧ ∀ w, (do eqGuard op t xo yo (.int k a) (.int k' b); binOp op t (.int k a) (.int k' b) : Sem Value).run P w = .ok v w := by
  unfold shB at hc
  split at hc
  · cases hc
  rename_i hb
  have hb : ¬ b < 0 := of_decide_eq_false hb
  split at hc <;> first | (cases hc; done) | (simp only [litI_eq] at hc; injection hc with hc; subst hc; refine ⟨_, rfl, fun w => ?_⟩; simp [eqGuard, binOp, Op.shift, hb]; done)
theorem eqFs_run {d : Nat} {eq : TypeId → CV → CV → Option Bool} (ih : ∀ (t : TypeId) (x y : CV) (u v : Value) (b : Bool), eq t x y = some b → Rp m u x → Rp m v y → ∀ w, (Op.equalIn d t u v).run P w = .ok b w) {us vs : List Value} {xs ys : List CV} (hx : LR m us xs) (hy : LR m vs ys) :
    ∀ (fs : List Field) (b : Bool), eqFs P eq fs xs ys = some b → ∀ w, (Op.eqFields d us.toArray vs.toArray fs).run P w = .ok b w
  | [], b, hc, w => by simp only [eqFs, Option.some.injEq] at hc; subst hc; rfl
  | f :: fs, b, hc, w => by
    simp only [eqFs] at hc
    split at hc
    · cases hc
    rename_i hn
    have hn : f.name ≠ "_" := of_decide_eq_true hn
    split at hc
    case h_2 => cases hc
    rename_i x hpx
    split at hc
    case h_2 => cases hc
    rename_i y hpy
    obtain ⟨v1, e1, q1⟩ := part_rep hx _ hpx
    obtain ⟨v2, e2, q2⟩ := part_rep hy _ hpy
    split at hc
    · rename_i he
      simp only [Op.eqFields, if_pos hn, Sem.run_bind, q1, q2, Result.andThen_ok, ih _ _ _ _ _ _ he e1 e2, Bool.not_true, Bool.false_eq_true, if_false]
      exact eqFs_run ih hx hy fs b hc w
    · rename_i he
      injection hc with hc; subst hc
      simp [Op.eqFields, if_pos hn, Sem.run_bind, q1, q2, Result.andThen_ok, ih _ _ _ _ _ _ he e1 e2]
    · cases hc
theorem eqC_run : ∀ (d : Nat) (t : TypeId) (x y : CV) (u v : Value) (b : Bool), eqC P d t x y = some b → Rp m u x → Rp m v y → ∀ w, (Op.equalIn d t u v).run P w = .ok b w
  | 0, _, _, _, _, _, _, hc, _, _, _ => by cases hc
  | d + 1, t, x, y, u, v, b, hc, hx, hy, w => by
    simp only [eqC] at hc
    split at hc
    · rename_i hu
      split at hc
      · injection hc with hc; subst hc
        rw [hx.lit_eq, hy.lit_eq]; exact run_equalIn_bool w d t _ _ hu
      · cases hc
    · rename_i k0 hu
      split at hc
      · split at hc
        · rename_i hk
          have hk := of_decide_eq_true hk
          subst hk
          injection hc with hc; subst hc
          rw [hx.lit_eq, hy.lit_eq]; exact run_equalIn_int w d t _ _ _ _ hu
        · cases hc
      · cases hc
    · rename_i hu
      split at hc
      · injection hc with hc; subst hc
        rw [hx.lit_eq, hy.lit_eq, ← ByteArray.toList_eq, ← ByteArray.toList_eq]; exact run_equalIn_string w d t _ _ hu
      · cases hc
    · rename_i e hu
      split at hc
      · injection hc with hc; subst hc
        rw [hx.lit_eq, hy.lit_eq]; simp [Op.equalIn, run_underlying hu]
      · injection hc with hc; subst hc
        rw [hy.lit_eq]; cases hx; simp [Op.equalIn, run_underlying hu]
      · injection hc with hc; subst hc
        rw [hx.lit_eq]; cases hy; simp [Op.equalIn, run_underlying hu]
      · rename_i b1 o b2 o'
        split at hc
        · rename_i hb
          have hb := of_decide_eq_true hb
          subst hb
          split at hc
          · rename_i n hn
            injection hc with hc; subst hc
            cases hx with
            | ptr _ _ p hp =>
              cases hy with
              | ptr _ _ p' hp' =>
                rw [hp] at hp'; injection hp' with hp'; subst hp'
                have : (({ block := p.r, off := p.o + o } : Addr) == { block := p.r, off := p.o + o' }) = Nat.beq o o' := by
                  by_cases ho : o = o'
                  · subst ho; simp
                  · have : Nat.beq o o' = false := by
                      cases hq : Nat.beq o o' with
                      | false => rfl
                      | true => exact absurd (Nat.eq_of_beq_eq_true hq) ho
                    rw [this]
                    simp [ho]
                simp [Op.equalIn, run_underlying hu, szT_run hn, sameAddr, this]
          · cases hc
        · cases hc
      · cases hc
    · rename_i ms hu
      split at hc
      · injection hc with hc; subst hc
        rw [hx.lit_eq, hy.lit_eq]; simp [Op.equalIn, run_underlying hu]
      · injection hc with hc; subst hc
        rw [hy.lit_eq]; cases hx; simp [Op.equalIn, run_underlying hu]
      · injection hc with hc; subst hc
        rw [hx.lit_eq]; cases hy; simp [Op.equalIn, run_underlying hu]
      · split at hc
        · rename_i ht
          have ht := of_decide_eq_false ht
          injection hc with hc; subst hc
          cases hx; cases hy; simp [Op.equalIn, run_underlying hu, ht]
        · rename_i ht
          have ht := of_decide_eq_true ht
          subst ht
          split at hc
          case h_2 => cases hc
          rename_i i hi
          split at hc
          case h_2 => cases hc
          rename_i hcm
          cases hx with
          | ifc _ u1 _ h1 =>
            cases hy with
            | ifc _ v1 _ h2 =>
              have := eqC_run d _ _ _ _ _ b hc h1 h2 w
              simp [Op.equalIn, run_underlying hu, typeInfo, hi, hcm, this]
      · cases hc
    · rename_i e hu
      split at hc
      · injection hc with hc; subst hc
        rw [hx.lit_eq, hy.lit_eq]; simp [Op.equalIn, run_underlying hu]
      · injection hc with hc; subst hc
        rw [hy.lit_eq]; cases hx; simp [Op.equalIn, run_underlying hu]
      · injection hc with hc; subst hc
        rw [hx.lit_eq]; cases hy; simp [Op.equalIn, run_underlying hu]
      · cases hc
    · rename_i k e hu
      split at hc
      · injection hc with hc; subst hc
        rw [hx.lit_eq, hy.lit_eq]; simp [Op.equalIn, run_underlying hu]
      · injection hc with hc; subst hc
        rw [hy.lit_eq]; cases hx; simp [Op.equalIn, run_underlying hu]
      · injection hc with hc; subst hc
        rw [hx.lit_eq]; cases hy; simp [Op.equalIn, run_underlying hu]
      · cases hc
    · rename_i k e e2 hu
      split at hc
      · injection hc with hc; subst hc
        rw [hx.lit_eq, hy.lit_eq]; simp [Op.equalIn, run_underlying hu]
      · injection hc with hc; subst hc
        rw [hy.lit_eq]; cases hx; simp [Op.equalIn, run_underlying hu]
      · injection hc with hc; subst hc
        rw [hx.lit_eq]; cases hy; simp [Op.equalIn, run_underlying hu]
      · cases hc
    · rename_i fs hu
      split at hc
      · cases hc
      rename_i hst
      split at hc
      · rename_i xs ys hxs hys
        obtain ⟨us, rfl, hus⟩ := aggC_rep hx hxs
        obtain ⟨vs, rfl, hvs⟩ := aggC_rep hy hys
        have hfs : P.fieldsOf t = fs := by unfold Program.fieldsOf; rw [hu]
        rw [run_equalIn_struct w d t _ _ (by rw [hu, hfs]) hst, hfs]
        exact eqFs_run (fun t x y u v b => eqC_run d t x y u v b) hus hvs fs.toList b hc w
      · cases hc
    · cases hc
theorem nil_of {x : CV} (hx : Rp m .nilIface x) (hn : x ≠ .any) : x = .lit .nilIface := by
  cases hx with
  | any => exact absurd rfl hn
  | lit => rfl
  | abs _ a h => cases a <;> simp [Ab.holds] at h
theorem agg_of {x : CV} {b : Array Value} (hx : Rp m (.agg b) x) (hn : x ≠ .any) : ∃ cs, aggC x = some cs := by
  cases hx with
  | any => exact absurd rfl hn
  | lit => exact ⟨_, rfl⟩
  | agg vs cs hl hr => exact ⟨_, rfl⟩
  | abs _ a h => cases a <;> simp [Ab.holds] at h
theorem guardC_run {t : TypeId} {x y : CV} {xo yo : Operand} (hg : guardC P t x y xo yo = true) {u v : Value} (hx : Rp m u x) (hy : Rp m v y) (hxa : x ≠ .any) (hya : y ≠ .any) (op : BinOp) (w : World) : (eqGuard op t xo yo u v).run P w = .ok () w := by
  have hr : ∀ op, (op = .eql ∨ op = .neq) → (eqGuard op t xo yo u v).run P w = .ok () w := fun op ho => by
    cases u with
    | nilIface =>
      cases v with
      | nilIface =>
        have h1 := nil_of hx hxa
        have h2 := nil_of hy hya
        subst h1 h2
        simp only [guardC, Bool.or_eq_true] at hg
        rcases ho with rfl | rfl <;> rcases hg with hg | hg <;> first | (cases xo <;> simp_all [isConstO, eqGuard]; done) | (cases yo <;> simp_all [isConstO, eqGuard]; done)
      | _ => rcases ho with rfl | rfl <;> rfl
    | agg a =>
      cases v with
      | agg b =>
        obtain ⟨xs, h1⟩ := agg_of hx hxa
        obtain ⟨ys, h2⟩ := agg_of hy hya
        have hg2 : P.eqGuardType P.depth t = false := by
          unfold guardC at hg
          split at hg
          · simp [aggC] at h1
          · rw [h1, h2] at hg; simpa using hg
        rcases ho with rfl | rfl <;> exact run_eqGuard_agg _ _ _ _ _ _ _ hg2
      | _ => rcases ho with rfl | rfl <;> rfl
    | _ => rcases ho with rfl | rfl <;> rfl
  cases op <;> first | exact hr _ (.inl rfl) | exact hr _ (.inr rfl) | (simp [eqGuard]; done)
theorem eqC_any {d : Nat} {t : TypeId} {x y : CV} {b : Bool} (hb : eqC P (d + 1) t x y = some b) : x ≠ .any ∧ y ≠ .any := by
  simp only [eqC] at hb
  constructor
  · rintro rfl
    split at hb <;> first | (cases hb; done) | (simp only [aggC] at hb; done) | skip
    all_goals first | (cases hb; done) | skip
    split at hb <;> simp [aggC] at hb
  · rintro rfl
    split at hb <;> first | (cases hb; done) | skip
    all_goals first | (split at hb <;> first | (cases hb; done) | contradiction) | skip
    split at hb
    · cases hb
    · split at hb
      · rename_i h2; simp [aggC] at h2
      · cases hb
theorem eqC_float {d : Nat} {t : TypeId} {x y : CV} {b : Bool} (hb : eqC P (d + 1) t x y = some b) : (∀ k n, x ≠ .lit (.float k n)) ∧ ∀ k n i, x ≠ .lit (.complex k n i) := by
  simp only [eqC] at hb
  constructor
  · rintro k n rfl
    split at hb <;> first | (cases hb; done) | skip
    all_goals first | (split at hb <;> first | (cases hb; done) | contradiction) | skip
  · rintro k n i rfl
    split at hb <;> first | (cases hb; done) | skip
    all_goals first | (split at hb <;> first | (cases hb; done) | contradiction) | skip
theorem rngB_run {op : BinOp} {k : IntKind} {n lo hi b : Int} {r : Bool} (h1 : lo ≤ n) (h2 : n ≤ hi) (hc : rngB op lo hi b = some r) (t : TypeId) (xo yo : Operand) (w : World) : (do eqGuard op t xo yo (.int k n) (.int k b); binOp op t (.int k n) (.int k b) : Sem Value).run P w = .ok (.bool r) w := by
  cases op <;> simp only [rngB] at hc <;> first | (cases hc; done) | skip
  all_goals
    split at hc
    · rename_i hd
      have hd := of_decide_eq_true hd
      injection hc with hc; subst hc
      simp [eqGuard, binOp, Op.intArith, Op.intCmp]; omega
    · split at hc
      · rename_i hd
        have hd := of_decide_eq_true hd
        injection hc with hc; subst hc
        simp [eqGuard, binOp, Op.intArith, Op.intCmp]; omega
      · cases hc
theorem rngF_run {op : BinOp} {k : IntKind} {n lo hi b : Int} {r : Bool} (h1 : lo ≤ n) (h2 : n ≤ hi) (hc : rngF op b lo hi = some r) (t : TypeId) (xo yo : Operand) (w : World) : (do eqGuard op t xo yo (.int k b) (.int k n); binOp op t (.int k b) (.int k n) : Sem Value).run P w = .ok (.bool r) w := by
  cases op <;> simp only [rngF, rngB] at hc <;> first | (cases hc; done) | skip
  all_goals
    split at hc
    · rename_i hd
      have hd := of_decide_eq_true hd
      injection hc with hc; subst hc
      simp [eqGuard, binOp, Op.intArith, Op.intCmp]; omega
    · split at hc
      · rename_i hd
        have hd := of_decide_eq_true hd
        injection hc with hc; subst hc
        simp [eqGuard, binOp, Op.intArith, Op.intCmp]; omega
      · cases hc
theorem absL_run {op : BinOp} {a : Ab} {y c : CV} {u v : Value} (hc : absL op a y = some c) (hx : a.holds u) (hy : Rp m v y) (t : TypeId) (xo yo : Operand) : ∃ r, Rp m r c ∧ ∀ w, (do eqGuard op t xo yo u v; binOp op t u v : Sem Value).run P w = .ok r w := by
  unfold absL at hc
  split at hc
  case h_2 => cases hc
  rename_i k lo hi
  obtain ⟨n, rfl, h1, h2⟩ := hx
  split at hc
  case h_2 => cases hc
  rename_i k' b
  rw [hy.lit_eq]
  split at hc
  case h_2 => cases hc
  rename_i hk
  have hk := of_decide_eq_true hk
  subst hk
  split at hc
  case h_2 => cases hc
  rename_i r hr
  injection hc with hc; subst hc
  exact ⟨_, .lit _, fun w => rngB_run h1 h2 hr t xo yo w⟩
theorem absR_run {op : BinOp} {a : Ab} {x c : CV} {u v : Value} (hc : absR op x a = some c) (hx : Rp m u x) (hy : a.holds v) (t : TypeId) (xo yo : Operand) : ∃ r, Rp m r c ∧ ∀ w, (do eqGuard op t xo yo u v; binOp op t u v : Sem Value).run P w = .ok r w := by
  unfold absR at hc
  split at hc
  case h_2 => cases hc
  rename_i k lo hi
  obtain ⟨n, rfl, h1, h2⟩ := hy
  split at hc
  case h_2 => cases hc
  rename_i k' b
  rw [hx.lit_eq]
  split at hc
  case h_2 => cases hc
  rename_i hk
  have hk := of_decide_eq_true hk
  subst hk
  split at hc
  case h_2 => cases hc
  rename_i r hr
  injection hc with hc; subst hc
  exact ⟨_, .lit _, fun w => rngF_run h1 h2 hr t xo yo w⟩
theorem float_lit {x : CV} {k : FloatKind} {n : Nat} (hx : Rp m (.float k n) x) (h1 : x ≠ .any) : x = .lit (.float k n) := by
  cases hx with
  | any => exact absurd rfl h1
  | lit => rfl
  | abs _ a h => cases a <;> simp [Ab.holds] at h
theorem complex_lit {x : CV} {k : FloatKind} {n i : Nat} (hx : Rp m (.complex k n i) x) (h1 : x ≠ .any) : x = .lit (.complex k n i) := by
  cases hx with
  | any => exact absurd rfl h1
  | lit => rfl
  | abs _ a h => cases a <;> simp [Ab.holds] at h
theorem int_lit {k k' : IntKind} {a b : Int} {x y : CV} (hx : Rp m (.int k a) x) (hy : Rp m (.int k' b) y) (h1 : x ≠ .any) (h2 : y ≠ .any) (h3 : ∀ a, x = .abs a → False) (h4 : ∀ a, y = .abs a → False) (hn : ∀ k a k' b, x = .lit (.int k a) → y = .lit (.int k' b) → False) : False := by
  cases hx <;> cases hy <;> first | exact h1 rfl | exact h2 rfl | exact h3 _ rfl | exact h4 _ rfl | exact hn _ _ _ _ rfl rfl
theorem str_lit {a b : ByteArray} {x y : CV} (hx : Rp m (.string a) x) (hy : Rp m (.string b) y) (h1 : x ≠ .any) (h2 : y ≠ .any) (h3 : ∀ a, x = .abs a → False) (h4 : ∀ a, y = .abs a → False) (hn : ∀ a b, x = .lit (.string a) → y = .lit (.string b) → False) : False := by
  cases hx <;> cases hy <;> first | exact h1 rfl | exact h2 rfl | exact h3 _ rfl | exact h4 _ rfl | exact hn _ _ rfl rfl
theorem bin_eql {t : TypeId} {u v : Value} {b : Bool} (hf : (∀ k n, u ≠ .float k n) ∧ ∀ k n i, u ≠ .complex k n i) (hi : ¬ ∃ k a k' b, u = .int k a ∧ v = .int k' b) (hs : ¬ ∃ a b, u = .string a ∧ v = .string b) (he : ∀ w, (Op.equalIn 10000 t u v).run P w = .ok b w) (w : World) : (binOp .eql t u v).run P w = .ok (.bool b) w := by
  have hq : (Op.equal t u v).run P w = .ok b w := he w
  have := fun (hd : binOp .eql t u v = (do pure (.bool (← Op.equal t u v)) : Sem Value)) => show (binOp .eql t u v).run P w = .ok (.bool b) w by rw [hd]; simp [hq]
  cases u <;> cases v <;> first | exact this rfl | exact absurd ⟨_, _, _, _, rfl, rfl⟩ hi | exact absurd ⟨_, _, rfl, rfl⟩ hs | exact absurd rfl (hf.1 _ _) | exact absurd rfl (hf.2 _ _ _)
theorem bin_neq {t : TypeId} {u v : Value} {b : Bool} (hf : (∀ k n, u ≠ .float k n) ∧ ∀ k n i, u ≠ .complex k n i) (hi : ¬ ∃ k a k' b, u = .int k a ∧ v = .int k' b) (hs : ¬ ∃ a b, u = .string a ∧ v = .string b) (he : ∀ w, (Op.equalIn 10000 t u v).run P w = .ok b w) (w : World) : (binOp .neq t u v).run P w = .ok (.bool (!b)) w := by
  have hq : (Op.equal t u v).run P w = .ok b w := he w
  have := fun (hd : binOp .neq t u v = (do pure (.bool (!(← Op.equal t u v))) : Sem Value)) => show (binOp .neq t u v).run P w = .ok (.bool (!b)) w by rw [hd]; simp [hq]
  cases u <;> cases v <;> first | exact this rfl | exact absurd ⟨_, _, _, _, rfl, rfl⟩ hi | exact absurd ⟨_, _, rfl, rfl⟩ hs | exact absurd rfl (hf.1 _ _) | exact absurd rfl (hf.2 _ _ _)
theorem binC_run {op : BinOp} {t : TypeId} {x y : CV} {xo yo : Operand} {c : CV} (hc : binC P op t x y xo yo = some c) {u v : Value} (hx : Rp m u x) (hy : Rp m v y) : ∃ r, Rp m r c ∧ ∀ w, (do eqGuard op t xo yo u v; binOp op t u v : Sem Value).run P w = .ok r w := by
  unfold binC at hc
  split at hc
  · rw [hx.lit_eq, hy.lit_eq]
    split at hc
    · obtain ⟨r, rfl, hr⟩ := shB_run (P := P) hc t xo yo; exact ⟨r, .lit r, hr⟩
    · obtain ⟨r, rfl, hr⟩ := shB_run (P := P) hc t xo yo; exact ⟨r, .lit r, hr⟩
    · rename_i h1 h2
      split at hc
      · rename_i hk
        have hk := of_decide_eq_true hk
        subst hk
        obtain ⟨r, rfl, hr⟩ := intB_run (P := P) hc (fun e => h1 e) (fun e => h2 e) t xo yo; exact ⟨r, .lit r, hr⟩
      · cases hc
  · rw [hx.lit_eq, hy.lit_eq]
    obtain ⟨r, rfl, hr⟩ := strB_run (P := P) hc t xo yo; exact ⟨r, .lit r, hr⟩
  · cases hx with | abs _ _ hh => exact absL_run hc hh hy t xo yo
  · cases hy with | abs _ _ hh => exact absR_run hc hx hh t xo yo
  · have hni : ∀ k a k' b, x = .lit (.int k a) → y = .lit (.int k' b) → False := by assumption
    have hns : ∀ a b, x = .lit (.string a) → y = .lit (.string b) → False := by assumption
    have hnx : ∀ a, x = .abs a → False := by assumption
    have hny : ∀ a, y = .abs a → False := by assumption
    split at hc
    · cases hc
    rename_i hg
    obtain ⟨hxa, hya⟩ : x ≠ .any ∧ y ≠ .any := by
      split at hc
      · split at hc
        · rename_i b hb; exact eqC_any hb
        · cases hc
      · split at hc
        · rename_i b hb; exact eqC_any hb
        · cases hc
      · cases hc
    have hgr := guardC_run hg hx hy hxa hya op
    split at hc
    · split at hc
      · rename_i b hb
        injection hc with hc; subst hc
        refine ⟨_, .lit _, fun w => ?_⟩
        rw [Sem.run_bind, hgr w, Result.andThen_ok]
        have he := fun w => eqC_run 10000 t x y u v b hb hx hy w
        exact bin_eql ⟨fun k n e => by subst e; exact (eqC_float hb).1 _ _ (float_lit hx hxa), fun k n i e => by subst e; exact (eqC_float hb).2 _ _ _ (complex_lit hx hxa)⟩ (by rintro ⟨k, a, k', b2, h1, h2⟩; subst h1 h2; exact int_lit hx hy hxa hya hnx hny hni) (by rintro ⟨a, b2, h1, h2⟩; subst h1 h2; exact str_lit hx hy hxa hya hnx hny hns) he w
      · cases hc
    · split at hc
      · rename_i b hb
        injection hc with hc; subst hc
        refine ⟨_, .lit _, fun w => ?_⟩
        rw [Sem.run_bind, hgr w, Result.andThen_ok]
        have he := fun w => eqC_run 10000 t x y u v b hb hx hy w
        exact bin_neq ⟨fun k n e => by subst e; exact (eqC_float hb).1 _ _ (float_lit hx hxa), fun k n i e => by subst e; exact (eqC_float hb).2 _ _ _ (complex_lit hx hxa)⟩ (by rintro ⟨k, a, k', b2, h1, h2⟩; subst h1 h2; exact int_lit hx hy hxa hya hnx hny hni) (by rintro ⟨a, b2, h1, h2⟩; subst h1 h2; exact str_lit hx hy hxa hya hnx hny hns) he w
      · cases hc
    · cases hc
end
end Go.Proofs.YtboopmfjkepilaaGreatDoor.Run
