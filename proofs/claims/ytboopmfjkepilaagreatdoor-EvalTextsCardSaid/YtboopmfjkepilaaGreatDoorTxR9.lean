/-
  Texts of one proof, in their order. No condition.
-/
import Derived.Test.YtboopmfjkepilaaGreatDoorTxR8
namespace Go.Proofs.YtboopmfjkepilaaGreatDoor.Run
open Go.RowKit
set_option linter.unusedVariables false
set_option linter.unusedSimpArgs false
def zerosC (z : List Value) (n : Nat) : List CV := (List.range n).map fun i => .lit (z.getD (i % z.length) undef)
def bytesT (P : Program) (t : TypeId) : Option Nat := match P.info? t with | some i => some i.bytes | none => none
def srcC (P : Program) (h : Hp) (t : TypeId) (sz : Nat) (c : CV) : Option (Nat × List CV) := match P.underlying t with
  | some (.slice _) => (match c with
    | .lit (.slice none 0 0) => some (0, [])
    | .sl b o n sz' _ _ => (match h.t.get b with
      | some (.cells cs _) => (match Nat.beq sz sz' && Nat.ble (o + n * sz) cs.length with
        | true => some (n, (cs.drop o).take (n * sz))
        | false => none)
      | _ => none)
    | _ => none)
  | some .string => (match c with
    | .lit (.string s) => (match Nat.beq sz 1 with | true => some (s.size, s.data.toList.map fun b => .lit (.int .u8 b.toNat)) | false => none)
    | _ => none)
  | _ => none
variable (P : Program)
def appC (h : Hp) (t tx : TypeId) (s x : CV) : Option (CV × Hp) := match P.underlying t with
  | some (.slice e) => match szT P e, bytesT P e, zeroT P e with
    | some (z + 1), some bt, some zv => match (match Nat.beq zv.cells.size (z + 1) with | true => srcC P h tx (z + 1) x | false => none) with
      | none => none
      | some (k, ds) => match ds.all oneC with
        | false => none
        | true => match s with
          | .lit (.slice none 0 0) => (match k with
            | 0 => some (.lit (.slice none 0 0), h)
            | k + 1 => match Nat.ble ((k + 1) * bt) 140737488355328 && Nat.ble (k + 1) 140737488355328 with
              | true => some (.sl h.n 0 (k + 1) (z + 1) (k + 1) false, h.new (.cells ds h.n))
              | false => none)
          | .sl b o n sz c xx => (match Nat.beq sz (z + 1) with
            | false => none
            | true => match h.t.get b with
              | some (.cells cs g) => (match k with
                | 0 => some (.sl b o n sz c xx, h)
                | k + 1 => match Nat.ble (n + (k + 1)) c with
                  | true => (match Nat.ble (o + (n + (k + 1)) * sz) cs.length with
                    | true => some (.sl b o (n + (k + 1)) sz c xx, h.write b (spA (o + n * sz) ds cs) g)
                    | false => none)
                  | false => match Nat.ble ((n + (k + 1)) * bt) 140737488355328 && Nat.ble (n + (k + 1)) 140737488355328 && Nat.ble (o + n * sz) cs.length with
                    | false => none
                    | true => match xx with
                      | true => (match ((cs.drop o).take (n * sz)).all oneC with
                        | true => some (.sl h.n 0 (n + (k + 1)) sz (n + (k + 1)) false, h.new (.cells ((cs.drop o).take (n * sz) ++ ds) h.n))
                        | false => none)
                      | false => match Nat.beq (o + n * sz) cs.length && (cs.drop o).all oneC with
                        | false => none
                        | true => match h.g.get g with
                          | none => none
                          | some L => match cutAt b L with
                            | none => none
                            | some (pre, post) => some (.sl h.n 0 (n + (k + 1)) sz (n + (k + 1)) false, h.push b (cs.drop o ++ ds) g pre post))
              | _ => none)
          | _ => none
    | _, _, _ => none
  | _ => none
def appZ (h : Hp) (t tx : TypeId) (s x : CV) : Option (CV × Hp) := match P.underlying t, P.underlying tx with
  | some (.slice e), some (.int _) => match szT P e, bytesT P e, zeroT P e with
    | some (z + 1), some bt, some zv => match s, x with
      | .lit (.slice none 0 0), .lit (.int _ (.ofNat (k + 1))) => (match Nat.beq zv.cells.size (z + 1) && Nat.ble ((k + 1) * bt) 140737488355328 && Nat.ble (k + 1) 140737488355328 with
        | true => some (.sl h.n 0 (k + 1) (z + 1) (k + 1) false, h.new (.cells (zerosC zv.cells.toList ((k + 1) * (z + 1))) h.n))
        | false => none)
      | _, _ => none
    | _, _, _ => none
  | _, _ => none
def copyC (h : Hp) (t tx : TypeId) (d x : CV) : Option (CV × Hp) := match P.underlying t with
  | some (.slice e) => match szT P e with
    | some (z + 1) => match srcC P h tx (z + 1) x with
      | none => none
      | some (k, ds) => match d with
        | .lit (.slice none 0 0) => some (.lit (.int .i64 0), h)
        | .sl b o n sz _ _ => (match Nat.beq sz (z + 1) with
          | false => none
          | true => match h.t.get b with
            | some (.cells cs g) => (match Nat.ble (o + (Nat.min k n) * sz) cs.length && (ds.take (Nat.min k n * sz)).all oneC with
              | true => (match litI .i64 (Nat.min k n : Nat) with | some r => some (r, h.write b (spA o (ds.take (Nat.min k n * sz)) cs) g) | none => none)
              | false => none)
            | _ => none)
        | _ => none
    | _ => none
  | _ => none
def storeC (h : Hp) (t : TypeId) (c x : CV) : Option Hp := match c with
  | .ptr b o => match szT P t with
    | some n => match cellsC x with
      | some ds => match h.t.get b with
        | some (.cells cs g) => (match Nat.beq ds.length n && Nat.ble (o + n) cs.length && ds.all oneC with
          | true => some (h.write b (spA o ds cs) g)
          | false => none)
        | _ => none
      | none => none
    | none => none
  | _ => none
def mapSetC (h : Hp) (t : TypeId) (c k x : CV) : Option Hp := match P.underlying t with
  | some (.map kt _) => match c with
    | .mp b => match h.t.get b with
      | some (.map es bs ck) => match fixC k with
        | some kv => match keyOkC P kt kv with
          | true => match findE P kt kv es with
            | some (some j) => (match Instr.sameBits 10000 (es.getD j default).1 kv with
              | true => some { h with t := Tr.set (some (.map (es.set j (kv, x)) bs ck)) b h.t }
              | false => none)
            | some none => some { h with t := Tr.set (some (.map (es ++ [(kv, x)]) (bs ++ [ck]) (ck + 1))) b h.t }
            | none => none
          | false => none
        | none => none
      | _ => none
    | _ => none
  | _ => none
def mapDelC (h : Hp) (t : TypeId) (c k : CV) : Option Hp := match P.underlying t with
  | some (.map kt _) => match c with
    | .mp b => match h.t.get b with
      | some (.map es bs ck) => match fixC k with
        | some kv => match keyOkC P kt kv with
          | true => match findE P kt kv es with
            | some (some j) => some { h with t := Tr.set (some (.map (es.eraseIdx j) (bs.eraseIdx j) ck)) b h.t }
            | some none => some h
            | none => none
          | false => none
        | none => none
      | _ => none
    | _ => none
  | _ => none
def clearC (h : Hp) (t : TypeId) (c : CV) : Option Hp := match P.underlying t with
  | some (.map _ _) => match c with
    | .mp b => match h.t.get b with
      | some (.map _ _ ck) => some { h with t := Tr.set (some (.map [] [] ck)) b h.t }
      | _ => none
    | _ => none
  | _ => none
def findB (n : Int) : List Nat → Nat → Option Nat
  | [], _ => none
  | k :: r, i => match decide ((k : Int) = n) with | true => some i | false => findB n r (i + 1)
def mapEntC (h : Hp) (t : TypeId) (c k : CV) : Option (CV × Hp) := match P.underlying t with
  | some (.map kt e) => match c with
    | .mp b => match h.t.get b with
      | some (.map es bs ck) => match fixC k with
        | some kv => match keyOkC P kt kv with
          | true => match findE P kt kv es with
            | some (some j) => (match Instr.sameBits 10000 (es.getD j default).1 kv with
              | true => some (.tup [(es.getD j default).2, .lit (.int .i64 (bs.getD j 0))], { h with t := Tr.set (some (.map (es.set j (kv, (es.getD j default).2)) bs ck)) b h.t })
              | false => none)
            | some none => (match zeroT P e with
              | some z => some (.tup [.lit z, .lit (.int .i64 ck)], { h with t := Tr.set (some (.map (es ++ [(kv, .lit z)]) (bs ++ [ck]) (ck + 1))) b h.t })
              | none => none)
            | none => none
          | false => none
        | none => none
      | _ => none
    | _ => none
  | _ => none
def entStoreC (h : Hp) (c s x : CV) : Option Hp := match c with
  | .mp b => match h.t.get b with
    | some (.map es bs ck) => match s with
      | .lit (.int _ n) => match findB n bs 0 with
        | some j => some { h with t := Tr.set (some (.map (es.set j ((es.getD j default).1, x)) bs ck)) b h.t }
        | none => none
      | _ => none
    | _ => none
  | _ => none
def opE (ev : Operand → CV) (h : Hp) (o : Oper) : Option (CV × Hp) := match o.op with
  | .alloc t => (match zeroT P t with | some z => some (.ptr h.n 0, h.new (.cells (z.cells.toList.map .lit) h.n)) | none => none)
  | .box t x => (match cellsC (ev x) with | some ds => some (.ptr h.n 0, h.new (.cells ds h.n)) | none => none)
  | .buildSlice t len parts => match P.underlying t with
    | some (.slice e) => match szT P e, zeroT P e with
      | some n, some z => match Nat.ble (len * n) 16777216 && Nat.beq z.cells.size n with
        | true => (match fillC (fun i => some (i * n, n)) ev (zerosC z.cells.toList (len * n)) parts.toList with
          | some cs => some (.sl h.n 0 len n len true, h.new (.cells cs h.n))
          | none => none)
        | false => none
      | _, _ => none
    | _ => none
  | .makeSlice t l c => match P.underlying t with
    | some (.slice e) => match szT P e, zeroT P e, bytesT P e with
      | some n, some z, some bt => match natC (ev l), natC (ev c) with
        | some l, some c => (match Nat.ble l c && Nat.ble (bt * c) 140737488355328 && Nat.ble c 1000000000000 && Nat.beq z.cells.size n with
          | true => some (.sl h.n 0 l n c true, h.new (.cells (zerosC z.cells.toList (c * n)) h.n))
          | false => none)
        | _, _ => none
      | _, _, _ => none
    | _ => none
  | .store t a x => (match storeC P h t (ev a) (ev x) with | some h' => some (.lit undef, h') | none => none)
  | .makeMap t none => some (.mp h.n, h.new (.map [] [] 0))
  | .mapUpdate t c k x => (match mapSetC P h t (ev c) (ev k) (ev x) with | some h' => some (.lit undef, h') | none => none)
  | .insert t c k x => (match mapSetC P h t (ev c) (ev k) (ev x) with | some h' => some (.lit undef, h') | none => none)
  | .range t x => match P.underlying t with
    | some .string => (match ev x with | .lit (.string s) => some (.ptr h.n 0, h.new (.iter s 0)) | _ => none)
    | _ => none
  | .next x true => match ev x with
    | .ptr b 0 => (match h.t.get b with
      | some (.iter s pos) => (match Nat.blt pos s.size with
        | true => nfN (Utf8.decode s pos).1 fun r => nfN (pos + (Utf8.decode s pos).2) fun np => some (.tup [.lit (.bool true), .lit (.int .i64 pos), .lit (.int .i32 r)], { h with t := Tr.set (some (.iter s np)) b h.t })
        | false => some (.tup [.lit (.bool false)], h))
      | _ => none)
    | _ => none
  | .convert src dst x => match P.underlying src, P.underlying dst with
    | some .string, some (.slice e) => match P.underlying e with
      | some (.int .u8) => (match ev x with | .lit (.string s) => some (.sl h.n 0 s.data.toList.length 1 s.data.toList.length false, h.new (.cells (s.data.toList.map fun b => .lit (.int .u8 b.toNat)) h.n)) | _ => none)
      | _ => none
    | some (.slice _), some (.slice e) => match P.underlying e with
      | some (.int .u8) => (match Nat.beq src dst with
        | true => (match ev x with
          | .sl b o n z c own => (match h.t.get b with | some (.cells _ _) => some (.sl b o n z c own, h) | _ => none)
          | _ => none)
        | false => none)
      | _ => none
    | _, _ => none
  | .call c => match c.callee with
    | .builtin .append => (match c.argTypes.toList, c.args.toList with | [t, tx], [s, x] => (match appZ P h t tx (ev s) (ev x) with | some r => some r | none => appC P h t tx (ev s) (ev x)) | _, _ => none)
    | .builtin .copy => (match c.argTypes.toList, c.args.toList with | [t, tx], [d, x] => copyC P h t tx (ev d) (ev x) | _, _ => none)
    | .builtin .delete => (match c.argTypes.toList, c.args.toList with | [t, _], [d, x] => (match mapDelC P h t (ev d) (ev x) with | some h' => some (.lit undef, h') | none => none) | _, _ => none)
    | .builtin .clear => (match c.argTypes.toList, c.args.toList with | [t], [d] => (match clearC P h t (ev d) with | some h' => some (.lit undef, h') | none => none) | _, _ => none)
    | _ => none
  | .mapEntry t c k => mapEntC P h t (ev c) (ev k)
  | .entryStore _ c s x => (match entStoreC h (ev c) (ev s) (ev x) with | some h' => some (.lit undef, h') | none => none)
  | _ => none
end Go.Proofs.YtboopmfjkepilaaGreatDoor.Run
