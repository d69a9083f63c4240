/-
  Texts of one proof, in their order. No condition.
-/
import Derived.RangeFuncRecord
import Derived.Test.YtboopmfjkepilaaGreatDoorTxR12
namespace Go.Proofs.YtboopmfjkepilaaGreatDoor.Run
open Go.RowKit
set_option linter.unusedVariables false
set_option linter.unusedSimpArgs false
inductive AD where
  | mark (d : Pa)
  | fn (g : FuncId) (args : List CV)
inductive Ex where
  | normal
  | exit (id : Nat)
  | goto (l : Nat)
  | ret
inductive Tk where
  | code (rd : Option Pa) (c : Code) (f : Fr) (D : List AD) (h : Hp)
  | call (g : FuncId) (args : List CV) (h : Hp)
  | dcall (g : FuncId) (args : List CV) (h : Hp)
inductive Rs where
  | code (x : Ex) (f : Fr) (D : List AD) (h : Hp)
  | ret (c : CV) (h : Hp)
variable (P : Program)
def entersB (g : FuncId) : Bool := match P.funcs[g]? with
  | some fn => !(fn.name == "runtime.NumGoroutine") && fn.body.isSome
  | none => false
def methC (t : TypeId) (v : CV) (name : String) : Option (FuncId × CV) := match P.info? t with
  | some i => match i.methods.find? (·.name == name) with
    | some mt => match mt.path.toList with
      | [] => match mt.func with
        | some (g, pr) => match P.underlying t with
          | some (.pointer _) => (match pr with | true => some (g, v) | false => none)
          | some _ => (match pr with | false => some (g, v) | true => none)
          | none => none
        | none => none
      | _ :: _ => none
    | none => none
  | none => none
def calleeC (ev : Operand → CV) (c : Call) : Option (FuncId × List CV) := match c.callee with
  | .value fo => match ev fo with
    | .fn (.func g) fst cap => (match entersB P g with | true => some (g, fst ++ (c.args.toList.map ev ++ cap)) | false => none)
    | _ => none
  | .invoke r name => match ev r with
    | .ifc t v => match methC P t v name with
      | some (g, rv) => (match entersB P g with | true => some (g, rv :: c.args.toList.map ev) | false => none)
      | none => none
    | _ => none
  | .builtin _ => none
def yieldC (ev : Operand → CV) (c : Call) : Option (Pa × List CV) := match c.callee with
  | .value fo => (match ev fo with | .yl l => some (l, c.args.toList.map ev) | _ => none)
  | _ => none
def effB : Op → Bool
  | .alloc .. => true
  | .box .. => true
  | .buildSlice .. => true
  | .makeSlice .. => true
  | .store .. => true
  | .makeMap .. => true
  | .mapUpdate .. => true
  | .mapEntry .. => true
  | .entryStore .. => true
  | .insert .. => true
  | .range .. => true
  | .next .. => true
  | .convert src dst _ => match P.underlying src, P.underlying dst with | some .string, some (.slice _) => true | some (.slice _), some (.slice _) => true | _, _ => false
  | .call c => match c.callee with
    | .builtin .len => false
    | .builtin .cap => false
    | .builtin .min => false
    | .builtin .max => false
    | _ => true
  | _ => false
def jumpOf : Ex → Option Code
  | .normal => none
  | .ret => some .ret
  | .exit id => some (.exit id)
  | .goto l => some (.goto l)
def putAll (f : Fr) : List Tmp → List CV → Fr
  | t :: ts, c :: cs => putAll (f.put (some t) c) ts cs
  | _, _ => f
def Hp.turn (h : Hp) (b : Pa) (k : Blk) : Hp := { h with t := Tr.set (some k) b h.t }
variable (ih : Tk → Option Rs)
def roundC (l : Pa) (args : List CV) (h : Hp) : Option (CV × Hp) := match h.t.get l with
  | some (.loop .ready pend fr params assign body d) => match Nat.beq args.length params.size with
    | false => none
    | true => match ih (.code (some l) assign (putAll fr params.toList args) [] h) with
      | some (.code .normal f1 D1 h1) => match h1.t.get l with
        | some (.loop .ready pend1 fr1 params1 assign1 body1 d1) => match ih (.code (some l) body f1 D1 (h1.turn l (.loop .busy pend1 fr1 params1 assign1 body1 d1))) with
          | some (.code x f3 D3 h3) => match h3.t.get l with
            | some (.loop st3 pend3 fr3 params3 assign3 body3 d3) => match jumpOf x with
              | none => some (.lit (.bool true), h3.turn l (.loop .ready none fr3 params3 assign3 body3 d3))
              | some j => some (.lit (.bool false), h3.turn l (.loop .done (some j) fr3 params3 assign3 body3 d3))
            | _ => none
          | _ => none
        | _ => none
      | _ => none
  | _ => none
def opR (f : Fr) (h : Hp) (o : Oper) : Option (CV × Hp) := match effB P o.op with
  | false => (match opP P (evO f) h o.op with | some c => some (c, h) | none => none)
  | true => match o.op with
    | .call c => (match c.callee with
      | .builtin _ => opE P (evO f) h o
      | _ => match yieldC (evO f) c with
        | some (l, args) => roundC ih l args h
        | none => match calleeC P (evO f) c with
          | some (g, args) => (match ih (.call g args h) with | some (.ret c h') => some (c, h') | _ => none)
          | none => none)
    | _ => opE P (evO f) h o
def gvC (ops : List Oper) (f : Fr) (j : Nat) : CV := match ops[j]? with
  | some o => (match o.dst with | some d => f.get d | none => .any)
  | none => .any
def stepR (ops : List Oper) (f : Fr) (h : Hp) (o : Oper) : Option (CV × Hp) := match o.guard with
  | none => opR P ih f h o
  | some (j, want) => match gvC ops f j with
    | .lit (.bool b) => (match b, want with
      | true, true => opR P ih f h o
      | false, false => opR P ih f h o
      | _, _ => some (.lit undef, h))
    | .lit (.tuple _) => some (.lit undef, h)
    | _ => none
def opsR (ops : List Oper) : List Oper → Fr → Hp → Option (Fr × Hp)
  | [], f, h => some (f, h)
  | o :: r, f, h => match stepR P ih ops f h o with
    | some (c, h') => opsR ops r (f.put o.dst c) h'
    | none => none
def readAny (ops : List Oper) (d : Nat) : Bool := ops.any fun o => (readsO ops o).any (Nat.beq d)
def blockOp (o : Oper) : Bool := match o.op, o.guard, o.dst with
  | .alloc _, none, some _ => true
  | .makeSlice .., none, some _ => true
  | _, _, _ => false
def loneOp (ops : List Oper) (o : Oper) : Bool := blockOp o && (match o.dst with | some d => !(readAny ops d) | none => false)
def stepL (on : Bool) (ops : List Oper) (f : Fr) (h : Hp) (o : Oper) : Option (CV × Hp) := match on && loneOp ops o with
  | true => some (.any, h)
  | false => stepR P ih ops f h o
def onlyT (f : Fr) : List Nat → Tr CV
  | [] => .lf
  | t :: r => Tr.set (some (f.get t)) (Pa.of t) (onlyT f r)
def Fr.only (f : Fr) (ts : List Nat) : Fr := ⟨onlyT f ts, f.n⟩
def refR (on : Bool) (ops : List Oper) : List Oper → Fr → Hp → Option (List (CV × Hp × Fr) × Fr × Hp)
  | [], f, h => some ([], f, h)
  | o :: r, f, h => match stepL P ih on ops (f.only (readsO ops o)) h o with
    | some (c, h') => (match refR on ops r (f.put o.dst c) h' with
      | some (l, f2, h2) => some ((c, h', f) :: l, f2, h2)
      | none => none)
    | none => none
mutual
def sameC : Nat → CV → CV → Bool
  | 0, _, _ => false
  | n + 1, a, b => match a, b with
    | .lit u, .lit v => sameV n u v
    | .ptr b o, .ptr b' o' => decide (b = b') && Nat.beq o o'
    | .sl b o n sz c x, .sl b' o' n' sz' c' x' => decide (b = b') && Nat.beq o o' && Nat.beq n n' && Nat.beq sz sz' && Nat.beq c c' && (x == x')
    | .mp b, .mp b' => decide (b = b')
    | .yl b, .yl b' => decide (b = b')
    | .fn f a b, .fn f' a' b' => decide (f = f') && sameCs n a a' && sameCs n b b'
    | .ifc t c, .ifc t' c' => Nat.beq t t' && sameC n c c'
    | .agg l, .agg l' => sameCs n l l'
    | .tup l, .tup l' => sameCs n l l'
    | .abs a, .abs b => decide (a = b)
    | _, _ => false
def sameCs : Nat → List CV → List CV → Bool
  | 0, _, _ => false
  | n + 1, l, l' => match l, l' with
    | [], [] => true
    | a :: l, b :: l' => sameC n a b && sameCs n l l'
    | _, _ => false
def sameV : Nat → Value → Value → Bool
  | 0, _, _ => false
  | n + 1, u, v => match u, v with
    | .bool a, .bool b => a == b
    | .int k a, .int k' b => decide (k = k') && decide (a = b)
    | .string a, .string b => a.data.toList == b.data.toList
    | .pointer none, .pointer none => true
    | .slice none 0 0, .slice none 0 0 => true
    | .map none, .map none => true
    | .nilFunc, .nilFunc => true
    | .nilIface, .nilIface => true
    | .agg a, .agg b => sameVs n a.toList b.toList
    | .tuple a, .tuple b => sameVs n a.toList b.toList
    | _, _ => false
def sameVs : Nat → List Value → List Value → Bool
  | 0, _, _ => false
  | n + 1, l, l' => match l, l' with
    | [], [] => true
    | a :: l, b :: l' => sameV n a b && sameVs n l l'
    | _, _ => false
end
def effJ (ops : List Oper) (j : Nat) : Bool := match ops[j]? with | some o => effB P o.op | none => false
def loneAt (on : Bool) (ops : List Oper) (j : Nat) : Bool := match ops[j]? with | some o => on && loneOp ops o | none => false
def effK (on : Bool) (ops : List Oper) (j : Nat) : Bool := effJ P ops j && !(loneAt on ops j)
def floatsOf (on : Bool) (ops : List Oper) (n j : Nat) : List (Nat × Nat) := match effK P on ops j || loneAt on ops j with
  | true => []
  | false => ((upTo (n + 1)).filter fun k => mayB ops (effK P on ops) n j k && !(Nat.beq k (curIx (effK P on ops) (fun _ => true) j))).map fun k => (j, k)
def floats (on : Bool) (ops : List Oper) (n : Nat) : List (Nat × Nat) := (upTo n).flatMap (floatsOf P on ops n)
def al1B (on : Bool) (ops : List Oper) (n al : Nat) : Bool := (upTo n).all fun j => !(effK P on ops j && Nat.blt al j) || waitsO ops j al
def al2B (on : Bool) (ops : List Oper) (n al : Nat) : Bool := (upTo n).all fun j => effK P on ops j || !(waitsH ops j al) || (upTo al).all fun x => !(effK P on ops x) || waitsO ops j x
def al3B (ops : List Oper) (al sz : Nat) : Bool := match ops[al]? with
  | some o => blockOp o && (match o.dst with | some d => Nat.blt d sz | none => false)
  | none => false
def alTry (on : Bool) (ops : List Oper) (n sz al : Nat) : Bool := al3B ops al sz && chainB ops (fun j => effK P on ops j && !(Nat.beq j al)) n 0 none && al1B P on ops n al && al2B P on ops n al
def alFind (on : Bool) (ops : List Oper) (n sz : Nat) : List Nat → Option Nat
  | [] => none
  | i :: r => match alTry P on ops n sz i with | true => some i | false => alFind on ops n sz r
def alOf (on : Bool) (ops : List Oper) (n sz : Nat) : Option Nat := match chainB ops (effK P on ops) n 0 none with
  | true => some n
  | false => alFind P on ops n sz (upTo n)
def staticB (on : Bool) (ops : List Oper) (n sz : Nat) : Bool := calmL ops ops 0 && (alOf P on ops n sz).isSome
def readsB (ops : List Oper) (sz : Nat) : List Oper → Bool
  | [] => true
  | o :: r => (readsO ops o).all (fun t => Nat.blt t sz) && readsB ops sz r
def writesB (sz : Nat) : List Oper → Bool
  | [] => true
  | o :: r => (match o.dst with | some d => Nat.blt d sz | none => true) && writesB sz r
def floatOk (on : Bool) (ops : List Oper) (h : Hp) (l : List (CV × Hp × Fr)) : List (Nat × Nat) → Bool
  | [] => true
  | (j, k) :: r => (match ops[j]?, l[j]? with
    | some o, some (c, _, g) => (match stepL P ih on ops (g.only (readsO ops o)) ((h :: l.map (·.2.1)).getD k h) o with
      | some (c', _) => sameC 1000 c' c
      | none => false)
    | _, _ => false) && floatOk on ops h l r
def nameL (on : Bool) (ops : List Oper) : List Oper → List (CV × Hp × Fr) → Fr → Hp → Option (Fr × Hp)
  | [], _, f, h => some (f, h)
  | o :: r, x :: l, f, h => match on && loneOp ops o with
    | false => nameL on ops r l f h
    | true => match opE P (evO (x.2.2.only (readsO ops o))) h o with
      | some (c, h') => nameL on ops r l (f.put o.dst c) h'
      | none => none
  | _ :: _, [], _, _ => none
def anyR1 (on : Bool) (ops : List Oper) (n : Nat) (f : Fr) (h : Hp) : Option (Fr × Hp) := match staticB P on ops n f.n && readsB ops f.n ops && writesB f.n ops with
  | false => none
  | true => match refR P ih on ops ops f h with
    | none => none
    | some (l, f2, h2) => match floatOk P ih on ops h l (floats P on ops n) with
      | true => nameL P on ops ops l f2 h2
      | false => none
def backB : List Oper → Nat → Bool
  | [], _ => true
  | o :: r, j => (match o.guard with | none => true | some (i, _) => Nat.blt i j) && belowB j o.after.toList && backB r (j + 1)
def lastB (o : Oper) (n : Nat) : Bool := (match o.guard with | none => true | some _ => false) && belowB n o.after.toList && (upTo n).all fun i => waitsL i o.after.toList
def anyRk : Nat → List Oper → Fr → Hp → Option (Fr × Hp)
  | 0, _, _, _ => none
  | k + 1, ops, f, h => match staticB P false ops ops.length f.n with
    | true => anyR1 P ih false ops ops.length f h
    | false => match staticB P true ops ops.length f.n with
      | true => anyR1 P ih true ops ops.length f h
      | false => match ops.getLast? with
        | none => none
        | some o => match lastB o (ops.length - 1) && backB ops.dropLast 0 with
          | false => none
          | true => match anyRk k ops.dropLast f h with
            | none => none
            | some (f1, h1) => match stepR P ih ops f1 h1 o with
              | some (c, h2) => some (f1.put o.dst c, h2)
              | none => none
def anyR (ops : List Oper) (f : Fr) (h : Hp) : Option (Fr × Hp) := anyRk P ih 8 ops f h
def resL (f : Fr) (h : Hp) : List ResultVar → Option (List CV)
  | [] => some []
  | .tmp t :: r => (match resL f h r with | some l => some (f.get t :: l) | none => none)
  | .cell a t :: r => match f.get a with
    | .ptr b o => (match loadC P t h b o, resL f h r with | some c, some l => some (c :: l) | _, _ => none)
    | _ => none
def oneR : List CV → CV
  | [r] => r
  | l => .tup l
def deferO (f : Fr) (o : Oper) : Option AD := match o.guard, o.op with
  | none, .defer c => (match c.callee with
    | .value fo => (match evO f fo with
      | .fn (.func g) fst cap => (match entersB P g with | true => some (.fn g (fst ++ (c.args.toList.map (evO f) ++ cap))) | false => none)
      | _ => none)
    | _ => none)
  | _, _ => none
def opsDR (ops : List Oper) : List Oper → Fr → List AD → Hp → Option (Fr × List AD × Hp)
  | [], f, D, h => some (f, D, h)
  | o :: r, f, D, h => match deferO P f o with
    | some ad => opsDR ops r (f.put o.dst (.lit undef)) (ad :: D) h
    | none => match stepR P ih ops f h o with
      | some (c, h') => opsDR ops r (f.put o.dst c) D h'
      | none => none
def isRec : Op → Bool
  | .call c => match c.callee with | .builtin .recover => true | _ => false
  | _ => false
def opRS (f : Fr) (h : Hp) (o : Oper) : Option (CV × Hp) := match isRec o.op with
  | true => some (.lit .nilIface, h)
  | false => match effB P o.op with
    | false => (match opP P (evO f) h o.op with | some c => some (c, h) | none => none)
    | true => opE P (evO f) h o
def opsSR : List Oper → Fr → Hp → Option (Fr × Hp)
  | [], f, h => some (f, h)
  | o :: r, f, h => match o.guard with
    | some _ => none
    | none => match opRS P f h o with
      | some (c, h') => opsSR r (f.put o.dst c) h'
      | none => none
def codeD : Code → Fr → List AD → Hp → Option Rs
  | .seq a b, f, D, h => match codeD a f D h with
    | some (.code .normal f' D' h') => codeD b f' D' h'
    | some (.code x f' D' h') => some (.code x f' D' h')
    | _ => none
  | .cond x a b, f, D, h => match evO f x with
    | .lit (.bool true) => codeD a f D h
    | .lit (.bool false) => codeD b f D h
    | _ => none
  | .region id ops false, f, D, h => match ops.toList.any (fun o => isRec o.op) with
    | true => (match opsSR P ops.toList f h with | some (f', h') => some (.code .normal f' D h') | none => none)
    | false => ih (.code none (.region id ops false) f D h)
  | c, f, D, h => ih (.code none c f D h)
def marksR : List AD → Hp → Option Hp
  | [], h => some h
  | .fn g args :: r, h => (match ih (.dcall g args h) with | some (.ret _ h') => marksR r h' | _ => none)
  | .mark d :: r, h => (match h.t.get d with | some .dfr => marksR r { h with t := Tr.set none d h.t } | _ => none)
def loopR (rd : Option Pa) (b : Code) : Nat → Fr → List AD → Hp → Option Rs
  | 0, _, _, _ => none
  | n + 1, f, D, h => match ih (.code rd b f D h) with
    | some (.code .normal f' D' h') => loopR rd b n f' D' h'
    | some (.code x f' D' h') => some (.code x f' D' h')
    | _ => none
def enterR (rd : Option Pa) (D : List AD) (h : Hp) : Option (Pa × Hp × List AD) := match rd with
  | none => some (h.n, h.new .dfr, AD.mark h.n :: D)
  | some l => match h.t.get l with | some (.loop _ _ _ _ _ _ d) => some (d, h, D) | _ => none
def leaveR (rd : Option Pa) (f : Fr) (D1 : List AD) (l : Pa) (h2 : Hp) : Option Rs := match h2.t.get l with
  | some (.loop st pend fr ps as bd d2) => (match st with
    | .busy => none
    | _ => match pend with
      | none => some (.code .normal f D1 (h2.turn l (.loop .exhausted pend fr ps as bd d2)))
      | some j => ih (.code rd j f D1 (h2.turn l (.loop .exhausted pend fr ps as bd d2))))
  | _ => none
def step : Tk → Option Rs
  | .code rd c f D h => match c with
    | .skip => some (.code .normal f D h)
    | .label _ => some (.code .normal f D h)
    | .ret => some (.code .ret f D h)
    | .exit id => some (.code (.exit id) f D h)
    | .seq a b => (match ih (.code rd a f D h) with
      | some (.code .normal f' D' h') => ih (.code rd b f' D' h')
      | some (.code x f' D' h') => some (.code x f' D' h')
      | _ => none)
    | .cond x a b => (match evO f x with
      | .lit (.bool true) => ih (.code rd a f D h)
      | .lit (.bool false) => ih (.code rd b f D h)
      | _ => none)
    | .block id b => (match ih (.code rd b f D h) with
      | some (.code (.exit i) f' D' h') => (match Nat.beq i id with | true => some (.code .normal f' D' h') | false => some (.code (.exit i) f' D' h'))
      | some (.code x f' D' h') => some (.code x f' D' h')
      | _ => none)
    | .loop b => loopR ih rd b 1000000000 f D h
    | .region _ ops false => (match rd with
      | none => (match opsDR P ih ops.toList ops.toList f D h with | some (f', D', h') => some (.code .normal f' D' h') | none => none)
      | some _ => (match opsR P ih ops.toList ops.toList f h with | some (f', h') => some (.code .normal f' D h') | none => none))
    | .region _ ops true => (match anyR P ih ops.toList f h with | some (f', h') => some (.code .normal f' D h') | none => none)
    | .rangeFunc g params assign body => (match evO f g with
      | .fn (.func gid) fst cap => (match entersB P gid with
        | false => none
        | true => match enterR rd D h with
          | none => none
          | some (d, h1, D1) => match ih (.call gid (fst ++ ([.yl h1.n] ++ cap)) (h1.new (.loop .ready none f params assign body d))) with
            | some (.ret _ h2) => leaveR ih rd f D1 h1.n h2
            | _ => none)
      | _ => none)
    | .scope b => (match ih (.code rd b f D h) with
      | some (.code (.goto _) _ _ _) => none
      | some (.code x f' D' h') => some (.code x f' D' h')
      | _ => none)
    | _ => none
  | .call g args h => match P.funcs[g]? with
    | none => none
    | some fn => match fn.body with
      | none => none
      | some c => nfN (args.length + (fn.ntmps - args.length)) fun n => match ih (.code none c (putAll ⟨.lf, n⟩ (upTo args.length) args) [] h) with
        | some (.code x f D h') => (match (match x with | .normal => true | .ret => true | _ => false) with
          | false => none
          | true => match marksR ih D h' with
            | none => none
            | some h2 => match resL P f h2 fn.results.toList with
              | some l => some (.ret (oneR l) h2)
              | none => none)
        | _ => none
  | .dcall g args h => match P.funcs[g]? with
    | none => none
    | some fn => match fn.body with
      | none => none
      | some c => nfN (args.length + (fn.ntmps - args.length)) fun n => match codeD P ih c (putAll ⟨.lf, n⟩ (upTo args.length) args) [] h with
        | some (.code x f D h') => (match (match x with | .normal => true | .ret => true | _ => false), D with
          | true, [] => (match resL P f h' fn.results.toList with
            | some l => some (.ret (oneR l) h')
            | none => none)
          | _, _ => none)
        | _ => none
def run : Nat → Tk → Option Rs
  | 0, _ => none
  | n + 1, t => step P (run n) t
end Go.Proofs.YtboopmfjkepilaaGreatDoor.Run
