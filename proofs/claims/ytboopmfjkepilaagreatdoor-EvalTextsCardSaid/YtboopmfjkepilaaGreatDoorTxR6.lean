/-
  Texts of one proof, in their order. No condition.
-/
import Derived.Test.YtboopmfjkepilaaGreatDoorTxR5
namespace Go.Proofs.YtboopmfjkepilaaGreatDoor.Run
open Go.RowKit
set_option linter.unusedVariables false
set_option linter.unusedSimpArgs false
variable (P : Program)
def fillC (place : Nat → Option (Nat × Nat)) (ev : Operand → CV) : List CV → List (Nat × Operand) → Option (List CV)
  | cells, [] => some cells
  | cells, (i, x) :: r => match place i with
    | none => none
    | some (off, sz) => match cellsC (ev x) with
      | none => none
      | some ds => match Nat.beq ds.length sz && Nat.ble (off + ds.length) cells.length with
        | true => fillC place ev (spA off ds cells) r
        | false => none
def placeS (fs : List Field) (i : Nat) : Option (Nat × Nat) := match fs[i]? with
  | some f => match szT P f.type with | some n => some (f.offset, n) | none => none
  | none => none
def allSz : List Field → Bool
  | [] => true
  | f :: fs => (szT P f.type).isSome && allSz fs
def buildC (ev : Operand → CV) (t : TypeId) (parts : List (Nat × Operand)) : Option CV := match zeroT P t with
  | some z => match P.underlying t with
    | some (.struct fs) => match allSz P fs.toList with
      | true => (match fillC (placeS P fs.toList) ev (z.cells.toList.map .lit) parts with | some cs => some (.agg cs) | none => none)
      | false => none
    | some (.array _ e) => match szT P e with
      | some n => (match fillC (fun i => some (i * n, n)) ev (z.cells.toList.map .lit) parts with | some cs => some (.agg cs) | none => none)
      | none => none
    | _ => none
  | none => none
def fieldC (t : TypeId) (c : CV) (i : Nat) : Option CV := match P.underlying t with
  | some (.struct fs) => match fs[i]? with
    | some f => match aggC c with | some cs => partC P f.type (cs.drop f.offset) | none => none
    | none => none
  | _ => none
def fieldAddrC (t : TypeId) (c : CV) (i : Nat) : Option CV := match P.underlying t with
  | some (.struct fs) => match fs[i]? with
    | some f => match szT P f.type with
      | some (_ + 1) => (match c with | .ptr b o => some (.ptr b (o + f.offset)) | _ => none)
      | _ => none
    | none => none
  | _ => none
def indexAddrC (t : TypeId) (c ix : CV) : Option CV := match P.underlying t with
  | some (.slice e) => match c with
    | .sl b o n sz _ _ => match natC ix with
      | some i => match szT P e with
        | some z => (match Nat.beq z sz && Nat.blt i n with | true => some (.ptr b (o + i * sz)) | false => none)
        | none => none
      | none => none
    | _ => none
  | some (.array len e) => match c with
    | .ptr b o => match natC ix with
      | some i => match szT P e with
        | some z => (match Nat.blt i len with | true => some (.ptr b (o + i * z)) | false => none)
        | none => none
      | none => none
    | _ => none
  | _ => none
def indexC (t : TypeId) (c ix : CV) : Option CV := match P.underlying t with
  | some .string => match c with
    | .lit (.string s) => match natC ix with
      | some i => (match s.data.toList[i]? with | some b => nfN b.toNat fun n => some (.lit (.int .u8 n)) | none => none)
      | none => none
    | _ => none
  | some (.array len e) => match aggC c with
    | some cs => match natC ix with
      | some i => match szT P e with
        | some z => (match Nat.blt i len with | true => partC P e (cs.drop (i * z)) | false => none)
        | none => none
      | none => none
    | none => none
  | _ => none
def entriesC (h : Hp) (c : CV) : Option (List (Value × CV)) := match c with
  | .mp b => (match h.t.get b with | some (.map es _ _) => some es | _ => none)
  | .lit (.map none) => some []
  | _ => none
def lookupC (h : Hp) (t : TypeId) (c ix : CV) (ok : Bool) : Option CV := match P.underlying t with
  | some (.map kt e) => match entriesC h c with
    | some es => match fixC ix with
      | some k => match keyOkC P kt k with
        | true => match findE P kt k es with
          | some (some j) => some (match ok with | true => .tup [(es.getD j default).2, .lit (.bool true)] | false => (es.getD j default).2)
          | some none => (match zeroT P e with | some z => some (match ok with | true => .tup [.lit z, .lit (.bool false)] | false => .lit z) | none => none)
          | none => none
        | false => none
      | none => none
    | none => none
  | _ => none
def assertC (c : CV) (t : TypeId) (ok : Bool) : Option CV := match P.underlying t with
  | some (.interface want) => match c with
    | .ifc u v => match P.info? u with
      | some i => (match Instr.missingMethod want i.methods with
        | none => some (match ok with | true => .tup [.ifc u v, .lit (.bool true)] | false => .ifc u v)
        | some _ => match ok with
          | true => (match zeroT P t with | some z => some (.tup [.lit z, .lit (.bool false)]) | none => none)
          | false => none)
      | none => none
    | .lit .nilIface => match ok with
      | true => (match zeroT P t with | some z => some (.tup [.lit z, .lit (.bool false)]) | none => none)
      | false => none
    | _ => none
  | some _ => match c with
    | .ifc u v => match decide (u = t) with
      | true => some (match ok with | true => .tup [v, .lit (.bool true)] | false => v)
      | false => match ok with
        | true => (match zeroT P t with | some z => some (.tup [.lit z, .lit (.bool false)]) | none => none)
        | false => none
    | .lit .nilIface => match ok with
      | true => (match zeroT P t with | some z => some (.tup [.lit z, .lit (.bool false)]) | none => none)
      | false => none
    | _ => none
  | none => none
def u8L : List CV → Option (List UInt8)
  | [] => some []
  | .lit (.int .u8 (.ofNat n)) :: r => match Nat.blt n 256 with
    | true => (match u8L r with | some l => some (UInt8.ofNat n :: l) | none => none)
    | false => none
  | _ :: _ => none
def i32L : List CV → Option (List Int)
  | [] => some []
  | .lit (.int .i32 n) :: r => (match i32L r with | some l => some (n :: l) | none => none)
  | _ :: _ => none
def runesB (l : List Int) : ByteArray := ⟨(l.flatMap fun n => (Utf8.encode n).data.toList).toArray⟩
def convC (h : Hp) (src dst : TypeId) (c : CV) : Option CV := match P.underlying src, P.underlying dst with
  | some _, some (.int k) => (match c with | .lit (.int _ n) => litI k (k.wrap n) | _ => none)
  | some (.slice e), some .string => match P.underlying e with
    | some (.int .u8) => match c with
      | .lit (.slice none 0 0) => some (.lit (.string ⟨#[]⟩))
      | .sl b o n 1 _ _ => (match h.t.get b with
        | some (.cells cs _) => match Nat.ble (o + n) cs.length with
          | true => (match u8L ((cs.drop o).take n) with | some l => some (.lit (.string ⟨l.toArray⟩)) | none => none)
          | false => none
        | _ => none)
      | _ => none
    | some (.int .i32) => match c with
      | .lit (.slice none 0 0) => some (.lit (.string ⟨#[]⟩))
      | .sl b o n 1 _ _ => (match h.t.get b with
        | some (.cells cs _) => match Nat.ble (o + n) cs.length with
          | true => (match i32L ((cs.drop o).take n) with | some l => some (.lit (.string (runesB l))) | none => none)
          | false => none
        | _ => none)
      | _ => none
    | _ => none
  | some (.int _), some .string => (match c with | .lit (.int _ n) => some (.lit (.string (Utf8.encode n))) | _ => none)
  | some .string, some .string => (match c with | .lit (.string s) => some (.lit (.string s)) | _ => none)
  | _, _ => none
def min2C (mx : Bool) (x y : CV) : Option CV := match x, y with
  | .lit (.int k a), .lit (.int _ b) => (match mx with
    | false => litI k (if b < a then b else a)
    | true => litI k (if a < b then b else a))
  | _, _ => none
def minF (mx : Bool) : CV → List CV → Option CV
  | x, [] => some x
  | x, y :: r => match min2C mx x y with | some z => minF mx z r | none => none
def minC (mx : Bool) : List CV → Option CV
  | [] => none
  | x :: r => minF mx x r
def lenC (h : Hp) (t : TypeId) (c : CV) : Option CV := match P.underlying t with
  | some .string => (match c with | .lit (.string s) => litI .i64 (s.data.toList.length : Nat) | _ => none)
  | some (.array n _) => litI .i64 n
  | some (.slice _) => (match c with | .sl _ _ n _ _ _ => litI .i64 n | .lit (.slice none 0 0) => litI .i64 0 | .abs (.osl lo hi) => some (.abs (.rng .i64 lo hi)) | _ => none)
  | some (.map _ _) => (match entriesC h c with | some es => litI .i64 es.length | none => none)
  | _ => none
def capC (t : TypeId) (c : CV) : Option CV := match P.underlying t with
  | some (.array n _) => litI .i64 n
  | some (.slice _) => (match c with | .sl _ _ _ _ cc true => litI .i64 cc | .lit (.slice none 0 0) => litI .i64 0 | _ => none)
  | _ => none
def opP (ev : Operand → CV) (h : Hp) : Op → Option CV
  | .move x => some (ev x)
  | .assign x => some (ev x)
  | .pick c a b => (match ev c with | .lit (.bool t) => some (match t with | true => ev a | false => ev b) | _ => none)
  | .build t parts => buildC P ev t parts.toList
  | .load t a => (match ev a with | .ptr b o => loadC P t h b o | _ => none)
  | .nilCheck x => (match ev x with | .ptr b o => some (.ptr b o) | .fn (.func g) u v => some (.fn (.func g) u v) | .yl l => some (.yl l) | _ => none)
  | .binOp op t x y _ => binC P op t (ev x) (ev y) x y
  | .unOp op _ x => unC op (ev x)
  | .convert src dst x => convC P h src dst (ev x)
  | .makeInterface t x => (match isIfaceT P t with | some false => some (.ifc t (ev x)) | _ => none)
  | .makeFunc fn first cap => some (.fn fn (first.toList.map ev) (cap.toList.map ev))
  | .slice t x lo hi mx => sliceC P ev t x lo hi mx
  | .fieldAddr t x i => fieldAddrC P t (ev x) i
  | .field t x i => fieldC P t (ev x) i
  | .indexAddr t x i => indexAddrC P t (ev x) (ev i)
  | .index t x i => indexC P t (ev x) (ev i)
  | .lookup t x i ok => lookupC P h t (ev x) (ev i) ok
  | .typeAssert x _ t ok => assertC P (ev x) t ok
  | .extract x i => (match ev x with | .tup vs => vs[i]? | .lit (.tuple a) => (match a.toList[i]? with | some v => some (.lit v) | none => none) | _ => none)
  | .call c => match c.callee with
    | .builtin .len => (match c.argTypes.toList with | t :: _ => (match c.args.toList with | x :: _ => lenC P h t (ev x) | [] => none) | [] => none)
    | .builtin .cap => (match c.argTypes.toList with | t :: _ => (match c.args.toList with | x :: _ => capC P t (ev x) | [] => none) | [] => none)
    | .builtin .min => minC false (c.args.toList.map ev)
    | .builtin .max => minC true (c.args.toList.map ev)
    | _ => none
  | _ => none
end Go.Proofs.YtboopmfjkepilaaGreatDoor.Run
