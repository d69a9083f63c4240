/-
  Texts of one proof, in their order. No condition.
-/
import Derived.WalkKit
import Derived.ProofKit
import Derived.OpenShut
import Derived.Carry
import Derived.ChangeSlices
import Derived.ChangeMaps5
import Derived.Maps.Views
import Derived.Test.YtgkagelejoknmaaTyZ2
import Derived.Test.YtgkagelejoknmaaTyPkb
namespace Go.Proofs.Ytgkagelejoknmaa.Deep
open Go.RowKit
set_option linter.unusedVariables false
def I3 : TI := ⟨true, 1, false, false, 0, false, false, [], false, some [.con (.int .i64 0)], 8, none, some .i64⟩
theorem T3 : T 3 = some I3 := by kernel_rfl
def I2 : TI := ⟨true, 1, false, false, 0, false, false, [], false, some [.con (.int .i64 0)], 8, none, some .i64⟩
theorem T2 : T 2 = some I2 := by kernel_rfl
def I5 : TI := ⟨true, 1, false, false, 0, false, false, [], false, some [.con (.int .u8 0)], 1, none, some .u8⟩
def I9 : TI := ⟨true, 1, false, false, 0, true, false, [], false, some [.con (.string ⟨#[]⟩)], 16, none, none⟩
theorem T9 : T 9 = some I9 := by kernel_rfl
def I22 : TI := ⟨true, 1, false, true, 53, false, false, [], false, some [.con (.slice none 0 0)], 24, none, none⟩
theorem T22 : T 22 = some I22 := by kernel_rfl
def I23 : TI := ⟨true, 1, false, true, 60, false, false, [], false, some [.con (.slice none 0 0)], 24, none, none⟩
theorem T23 : T 23 = some I23 := by kernel_rfl
def I24 : TI := ⟨true, 1, false, true, 26, false, false, [], false, some [.con (.slice none 0 0)], 24, none, none⟩
theorem T24 : T 24 = some I24 := by kernel_rfl
def I26 : TI := ⟨true, 3, true, false, 0, false, false, [(0, 3), (1, 9), (2, 24)], true, some [.con (.int .i64 0), .con (.string ⟨#[]⟩), .con (.slice none 0 0)], 48, none, none⟩
theorem T26 : T 26 = some I26 := by kernel_rfl
def I28 : TI := ⟨true, 2, true, false, 0, false, false, [(0, 3), (1, 3)], true, some [.con (.int .i64 0), .con (.int .i64 0)], 16, none, none⟩
theorem T28 : T 28 = some I28 := by kernel_rfl
def I29 : TI := ⟨true, 1, false, true, 5, false, false, [], false, some [.con (.slice none 0 0)], 24, none, none⟩
theorem T29 : T 29 = some I29 := by kernel_rfl
def I30 : TI := ⟨true, 1, false, true, 33, false, false, [], false, some [.con (.slice none 0 0)], 24, none, none⟩
theorem T30 : T 30 = some I30 := by kernel_rfl
def I31 : TI := ⟨true, 1, false, true, 88, false, false, [], false, some [.con (.slice none 0 0)], 24, none, none⟩
theorem T31 : T 31 = some I31 := by kernel_rfl
def I33 : TI := ⟨true, 8, true, false, 0, false, false, [(0, 3), (1, 28), (3, 2), (4, 29), (5, 9), (6, 30), (7, 31)], true, some [.con (.int .i64 0), .con (.int .i64 0), .con (.int .i64 0), .con (.int .i64 0), .con (.slice none 0 0), .con (.string ⟨#[]⟩), .con (.slice none 0 0), .con (.slice none 0 0)], 120, none, none⟩
theorem T33 : T 33 = some I33 := by kernel_rfl
def I34 : TI := ⟨true, 1, false, true, 64, false, false, [], false, some [.con (.slice none 0 0)], 24, none, none⟩
theorem T34 : T 34 = some I34 := by kernel_rfl
def I36 : TI := ⟨true, 17, true, false, 0, false, false, [(0, 22), (1, 23), (2, 3), (3, 3), (4, 26), (7, 3), (8, 33), (16, 34)], true, some [.con (.slice none 0 0), .con (.slice none 0 0), .con (.int .i64 0), .con (.int .i64 0), .con (.int .i64 0), .con (.string ⟨#[]⟩), .con (.slice none 0 0), .con (.int .i64 0), .con (.int .i64 0), .con (.int .i64 0), .con (.int .i64 0), .con (.int .i64 0), .con (.slice none 0 0), .con (.string ⟨#[]⟩), .con (.slice none 0 0), .con (.slice none 0 0), .con (.slice none 0 0)], 264, none, none⟩
theorem T36 : T 36 = some I36 := by kernel_rfl
def I84 : TI := ⟨true, 1, false, true, 86, false, false, [], false, some [.con (.slice none 0 0)], 24, none, none⟩
theorem T84 : T 84 = some I84 := by kernel_rfl
def I86 : TI := ⟨true, 6, true, false, 0, false, false, [(0, 3), (1, 28), (3, 9), (4, 2), (5, 84)], true, some [.con (.int .i64 0), .con (.int .i64 0), .con (.int .i64 0), .con (.string ⟨#[]⟩), .con (.int .i64 0), .con (.slice none 0 0)], 72, none, none⟩
theorem T86 : T 86 = some I86 := by kernel_rfl
def I88 : TI := ⟨true, 14, true, false, 0, false, false, [(0, 86), (6, 33)], true, some [.con (.int .i64 0), .con (.int .i64 0), .con (.int .i64 0), .con (.string ⟨#[]⟩), .con (.int .i64 0), .con (.slice none 0 0), .con (.int .i64 0), .con (.int .i64 0), .con (.int .i64 0), .con (.int .i64 0), .con (.slice none 0 0), .con (.string ⟨#[]⟩), .con (.slice none 0 0), .con (.slice none 0 0)], 192, none, none⟩
theorem T88 : T 88 = some I88 := by kernel_rfl
def I53 : TI := ⟨true, 4, true, false, 0, false, false, [(0, 28), (2, 9), (3, 51)], true, some [.con (.int .i64 0), .con (.int .i64 0), .con (.string ⟨#[]⟩), .con (.slice none 0 0)], 56, none, none⟩
theorem T53 : T 53 = some I53 := by kernel_rfl
def I60 : TI := ⟨true, 15, true, false, 0, false, false, [(0, 28), (2, 9), (3, 58), (4, 26), (7, 33)], true, some [.con (.int .i64 0), .con (.int .i64 0), .con (.string ⟨#[]⟩), .con (.slice none 0 0), .con (.int .i64 0), .con (.string ⟨#[]⟩), .con (.slice none 0 0), .con (.int .i64 0), .con (.int .i64 0), .con (.int .i64 0), .con (.int .i64 0), .con (.slice none 0 0), .con (.string ⟨#[]⟩), .con (.slice none 0 0), .con (.slice none 0 0)], 224, none, none⟩
theorem T60 : T 60 = some I60 := by kernel_rfl
def I64 : TI := ⟨true, 16, true, false, 0, false, false, [(0, 28), (2, 9), (3, 62), (7, 3), (8, 33)], true, some [.con (.int .i64 0), .con (.int .i64 0), .con (.string ⟨#[]⟩), .con (.string ⟨#[]⟩), .con (.int .i64 0), .con (.string ⟨#[]⟩), .con (.slice none 0 0), .con (.int .i64 0), .con (.int .i64 0), .con (.int .i64 0), .con (.int .i64 0), .con (.int .i64 0), .con (.slice none 0 0), .con (.string ⟨#[]⟩), .con (.slice none 0 0), .con (.slice none 0 0)], 224, none, none⟩
theorem T64 : T 64 = some I64 := by kernel_rfl
def I62 : TI := ⟨true, 4, true, false, 0, false, false, [(0, 9), (1, 26)], true, some [.con (.string ⟨#[]⟩), .con (.int .i64 0), .con (.string ⟨#[]⟩), .con (.slice none 0 0)], 64, none, none⟩
theorem T62 : T 62 = some I62 := by kernel_rfl
def I55 : TI := ⟨true, 2, true, false, 0, false, false, [(0, 9), (1, 24)], true, some [.con (.string ⟨#[]⟩), .con (.slice none 0 0)], 40, none, none⟩
theorem T55 : T 55 = some I55 := by kernel_rfl
def I51 : TI := ⟨true, 1, false, true, 55, false, false, [], false, some [.con (.slice none 0 0)], 24, none, none⟩
theorem T51 : T 51 = some I51 := by kernel_rfl
def I58 : TI := ⟨true, 1, false, true, 62, false, false, [], false, some [.con (.slice none 0 0)], 24, none, none⟩
theorem T58 : T 58 = some I58 := by kernel_rfl
theorem u3 : Try.prog.underlying 3 = some (.int .i64) := by kernel_rfl
theorem u2 : Try.prog.underlying 2 = some (.int .i64) := by kernel_rfl
theorem u5 : Try.prog.underlying 5 = some (.int .u8) := by kernel_rfl
theorem u9 : Try.prog.underlying 9 = some .string := by kernel_rfl
theorem u24 : Try.prog.underlying 24 = some (.slice 26) := by kernel_rfl
theorem u84 : Try.prog.underlying 84 = some (.slice 86) := by kernel_rfl
theorem u29 : Try.prog.underlying 29 = some (.slice 5) := by kernel_rfl
theorem u30 : Try.prog.underlying 30 = some (.slice 33) := by kernel_rfl
theorem u31 : Try.prog.underlying 31 = some (.slice 88) := by kernel_rfl
theorem u22 : Try.prog.underlying 22 = some (.slice 53) := by kernel_rfl
theorem u23 : Try.prog.underlying 23 = some (.slice 60) := by kernel_rfl
theorem u34 : Try.prog.underlying 34 = some (.slice 64) := by kernel_rfl
theorem u51 : Try.prog.underlying 51 = some (.slice 55) := by kernel_rfl
theorem u58 : Try.prog.underlying 58 = some (.slice 62) := by kernel_rfl
theorem z26 : 0 < Try.prog.cellsOf 26 := by rw [show Try.prog.cellsOf 26 = 3 by kernel_rfl]; decide
theorem z86 : 0 < Try.prog.cellsOf 86 := by rw [show Try.prog.cellsOf 86 = 6 by kernel_rfl]; decide
theorem z5 : 0 < Try.prog.cellsOf 5 := by rw [show Try.prog.cellsOf 5 = 1 by kernel_rfl]; decide
theorem z33 : 0 < Try.prog.cellsOf 33 := by rw [show Try.prog.cellsOf 33 = 8 by kernel_rfl]; decide
theorem z88 : 0 < Try.prog.cellsOf 88 := by rw [show Try.prog.cellsOf 88 = 14 by kernel_rfl]; decide
theorem z53 : 0 < Try.prog.cellsOf 53 := by rw [show Try.prog.cellsOf 53 = 4 by kernel_rfl]; decide
theorem z60 : 0 < Try.prog.cellsOf 60 := by rw [show Try.prog.cellsOf 60 = 15 by kernel_rfl]; decide
theorem z64 : 0 < Try.prog.cellsOf 64 := by rw [show Try.prog.cellsOf 64 = 16 by kernel_rfl]; decide
theorem z55 : 0 < Try.prog.cellsOf 55 := by rw [show Try.prog.cellsOf 55 = 2 by kernel_rfl]; decide
theorem z62 : 0 < Try.prog.cellsOf 62 := by rw [show Try.prog.cellsOf 62 = 4 by kernel_rfl]; decide
theorem CR.last {w : World} {cs : List Value} {o n : Nat} {p : List PV} (h : CR w ((cs.drop o).take n) p) (hl : cs.length = o + n) : CR w (cs.drop o) p := by
  rwa [List.take_of_length_le (by rw [List.length_drop]; omega)] at h
theorem tyPs_map : ∀ ts : List Ty, tyPs ts = ts.map tyP
  | [] => rfl
  | t :: ts => by rw [tyPs, tyPs_map ts]; rfl
theorem ptPs_map : ∀ ts : List Pt, ptPs ts = ts.map ptP
  | [] => rfl
  | t :: ts => by rw [ptPs, ptPs_map ts]; rfl
theorem exPs_map : ∀ ts : List Ex, exPs ts = ts.map exP
  | [] => rfl
  | t :: ts => by rw [exPs, exPs_map ts]; rfl
def arP (a : Pt × Ex) : List PV := ptP a.1 ++ exP a.2
theorem arPs_map : ∀ l : List (Pt × Ex), arPs (l.map Prod.snd) (l.map Prod.fst) = l.map arP
  | [] => rfl
  | a :: l => by rw [List.map_cons, List.map_cons, arPs, arPs_map l]; rfl
theorem wfExs_of : ∀ es : List Ex, (∀ e ∈ es, wfEx e) → wfExs es
  | [], _ => trivial
  | e :: es, h => by rw [wfExs]; exact ⟨h e (by simp), wfExs_of es (fun x hx => h x (by simp [hx]))⟩
section
variable {H : Type} {enc : TypeId × Value → H} {w : World} {spare : Nat → Bool} {held : Bool}
theorem op_i {P : Program} {t : TypeId} {k : IntKind} (u : P.underlying t = some (.int k)) {fuel : Nat} {cs : List Value} {x : DataW H × List MemPlace} (h : DataW.trod enc P w 0 spare held fuel t cs = some x) : ∃ n : Int, (Lit.int k n).wf = true ∧ CR w cs [.con (.int k n)] := by
  obtain ⟨n, rfl, _, hw⟩ := DataW.trod_int u h
  exact ⟨n, hw, .int _ _ _⟩
theorem op_s {P : Program} {t : TypeId} (u : P.underlying t = some .string) {fuel : Nat} {cs : List Value} {x : DataW H × List MemPlace} (h : DataW.trod enc P w 0 spare held fuel t cs = some x) : ∃ s : ByteArray, s.size ≤ maxLen ∧ CR w cs [.con (.string s)] := by
  obtain ⟨s, rfl, _, hs⟩ := DataW.trod_string u h
  exact ⟨s, hs, .str _ _⟩
theorem op_pos {fuel : Nat} {cs : List Value} {x : DataW H × List MemPlace} (h : DataW.trod enc Try.prog w 0 spare held fuel 28 cs = some x) : ∃ l c : Int, CR w cs [.con (.int .i64 l), .con (.int .i64 c)] := by
  obtain ⟨n, hn, hl, hf⟩ := open_flds tok T28 rfl h
  obtain ⟨y0, h0⟩ := hf 0 0 3 I3 rfl T3
  obtain ⟨y1, h1⟩ := hf 1 1 3 I3 rfl T3
  obtain ⟨l, _, c0⟩ := op_i u3 h0
  obtain ⟨c, _, c1⟩ := op_i u3 h1
  exact ⟨l, c, CR.seg (o := 0) c0 (CR.last c1 hl)⟩
theorem op_by {fuel : Nat} {cs : List Value} {x : DataW H × List MemPlace} (h : DataW.trod enc Try.prog w 0 spare held fuel 29 cs = some x) : ∃ b : List UInt8, CR w cs [.sl (byP b)] := by
  obtain ⟨b, _, c⟩ := open_slice (fun x : UInt8 => [.con (.int .u8 (x.toNat : Int))]) (fun _ => True) u29 z5 h (fun m us y hm _ hu => by
    obtain ⟨n, hw, c⟩ := op_i u5 hu
    have hb : 0 ≤ n ∧ n ≤ 255 := by
      simp only [Lit.wf, Bool.and_eq_true, decide_eq_true_eq] at hw
      exact hw
    refine ⟨UInt8.ofNat n.toNat, trivial, ?_⟩
    rwa [show ((UInt8.ofNat n.toNat).toNat : Int) = n by rw [UInt8.toNat_ofNat']; omega])
  exact ⟨b, c⟩
theorem open_ty (fuel : Nat) : ∀ (cs : List Value) (x : DataW H × List MemPlace), DataW.trod enc Try.prog w 0 spare held fuel 26 cs = some x → ∃ a : Ty, CR w cs (tyP a) := by
  induction fuel using Nat.strongRecOn with
  | _ fuel ih =>
  intro cs x h
  obtain ⟨n, hn, hl, hf⟩ := open_flds tok T26 rfl h
  obtain ⟨y0, h0⟩ := hf 0 0 3 I3 rfl T3
  obtain ⟨k, _, c0⟩ := op_i u3 h0
  obtain ⟨y1, h1⟩ := hf 1 1 9 I9 rfl T9
  obtain ⟨s, _, c1⟩ := op_s u9 h1
  obtain ⟨y2, h2⟩ := hf 2 2 24 I24 rfl T24
  obtain ⟨ps, _, c2⟩ := open_slice tyP (fun _ => True) u24 z26 h2 (fun m us y hm _ hu => by obtain ⟨a, ha⟩ := ih m (by omega) us y hu; exact ⟨a, trivial, ha⟩)
  refine ⟨.mk k s ps, ?_⟩
  rw [tyP, tyPs_map]
  have hz := CR.seg (o := 0) c0 (CR.seg c1 (CR.last c2 hl))
  exact hz
theorem open_pt (fuel : Nat) : ∀ (cs : List Value) (x : DataW H × List MemPlace), DataW.trod enc Try.prog w 0 spare held fuel 86 cs = some x → ∃ a : Pt, CR w cs (ptP a) := by
  induction fuel using Nat.strongRecOn with
  | _ fuel ih =>
  intro cs x h
  obtain ⟨n, hn, hl, hf⟩ := open_flds tok T86 rfl h
  obtain ⟨y0, h0⟩ := hf 0 0 3 I3 rfl T3
  obtain ⟨k, _, c0⟩ := op_i u3 h0
  obtain ⟨y1, h1⟩ := hf 1 1 28 I28 rfl T28
  obtain ⟨l, c, c1⟩ := op_pos h1
  obtain ⟨y2, h2⟩ := hf 2 3 9 I9 rfl T9
  obtain ⟨s, _, c2⟩ := op_s u9 h2
  obtain ⟨y3, h3⟩ := hf 3 4 2 I2 rfl T2
  obtain ⟨m, _, c3⟩ := op_i u2 h3
  obtain ⟨y4, h4⟩ := hf 4 5 84 I84 rfl T84
  obtain ⟨ps, _, c4⟩ := open_slice ptP (fun _ => True) u84 z86 h4 (fun m us y hm _ hu => by obtain ⟨a, ha⟩ := ih m (by omega) us y hu; exact ⟨a, trivial, ha⟩)
  refine ⟨.mk k l c s m ps, ?_⟩
  rw [ptP, ptPs_map]
  have hz := CR.seg (o := 0) c0 (CR.seg c1 (CR.seg c2 (CR.seg c3 (CR.last c4 hl))))
  exact hz
theorem open_ex (fuel : Nat) : ∀ (cs : List Value) (x : DataW H × List MemPlace), DataW.trod enc Try.prog w 0 spare held fuel 33 cs = some x → ∃ a : Ex, wfEx a ∧ CR w cs (exP a) := by
  induction fuel using Nat.strongRecOn with
  | _ fuel ih =>
  intro cs x h
  obtain ⟨n, hn, hl, hf⟩ := open_flds tok T33 rfl h
  obtain ⟨y0, h0⟩ := hf 0 0 3 I3 rfl T3
  obtain ⟨k, _, c0⟩ := op_i u3 h0
  obtain ⟨y1, h1⟩ := hf 1 1 28 I28 rfl T28
  obtain ⟨l, c, c1⟩ := op_pos h1
  obtain ⟨y2, h2⟩ := hf 2 3 2 I2 rfl T2
  obtain ⟨m, _, c2⟩ := op_i u2 h2
  obtain ⟨y3, h3⟩ := hf 3 4 29 I29 rfl T29
  obtain ⟨b, c3⟩ := op_by h3
  obtain ⟨y4, h4⟩ := hf 4 5 9 I9 rfl T9
  obtain ⟨s, _, c4⟩ := op_s u9 h4
  obtain ⟨y5, h5⟩ := hf 5 6 30 I30 rfl T30
  obtain ⟨ks, hks, c5⟩ := open_slice exP wfEx u30 z33 h5 (fun m us y hm _ hu => ih m (by omega) us y hu)
  obtain ⟨y6, h6⟩ := hf 6 7 31 I31 rfl T31
  obtain ⟨ars, har, c6⟩ := open_slice arP (fun a => wfEx a.2) u31 z88 h6 (fun m us y hm _ hu => by
    obtain ⟨n', hn', hl', hf'⟩ := open_flds tok T88 rfl hu
    obtain ⟨y0', h0'⟩ := hf' 0 0 86 I86 rfl T86
    obtain ⟨y1', h1'⟩ := hf' 1 6 33 I33 rfl T33
    obtain ⟨p, c0'⟩ := open_pt n' _ _ h0'
    obtain ⟨e, he, c1'⟩ := ih n' (by omega) _ _ h1'
    exact ⟨(p, e), he, CR.seg (o := 0) c0' (CR.last c1' hl')⟩)
  refine ⟨.mk k l c m b s ks (ars.map Prod.fst) (ars.map Prod.snd), by rw [wfEx]; exact ⟨by simp, wfExs_of ks hks, wfExs_of _ (fun e he => by obtain ⟨a, ha, rfl⟩ := List.mem_map.1 he; exact har a ha)⟩, ?_⟩
  rw [exP, exPs_map, arPs_map]
  have hz := CR.seg (o := 0) c0 (CR.seg c1 (CR.seg c2 (CR.seg c3 (CR.seg c4 (CR.seg c5 (CR.last c6 hl))))))
  exact hz
theorem open_co {fuel : Nat} (cs : List Value) (x : DataW H × List MemPlace) (h : DataW.trod enc Try.prog w 0 spare held fuel 55 cs = some x) : ∃ a : Co, CR w cs (coP a) := by
  obtain ⟨n, hn, hl, hf⟩ := open_flds tok T55 rfl h
  obtain ⟨y0, h0⟩ := hf 0 0 9 I9 rfl T9
  obtain ⟨s, _, c0⟩ := op_s u9 h0
  obtain ⟨y1, h1⟩ := hf 1 1 24 I24 rfl T24
  obtain ⟨ps, _, c1⟩ := open_slice tyP (fun _ => True) u24 z26 h1 (fun m us y hm _ hu => by obtain ⟨a, ha⟩ := open_ty _ us y hu; exact ⟨a, trivial, ha⟩)
  refine ⟨⟨s, ps⟩, ?_⟩
  unfold coP; rw [tyPs_map]
  have hz := CR.seg (o := 0) c0 (CR.last c1 hl)
  exact hz
theorem open_da {fuel : Nat} (cs : List Value) (x : DataW H × List MemPlace) (h : DataW.trod enc Try.prog w 0 spare held fuel 53 cs = some x) : ∃ a : Da, CR w cs (daP a) := by
  obtain ⟨n, hn, hl, hf⟩ := open_flds tok T53 rfl h
  obtain ⟨y0, h0⟩ := hf 0 0 28 I28 rfl T28
  obtain ⟨l, c, c0⟩ := op_pos h0
  obtain ⟨y1, h1⟩ := hf 1 2 9 I9 rfl T9
  obtain ⟨s, _, c1⟩ := op_s u9 h1
  obtain ⟨y2, h2⟩ := hf 2 3 51 I51 rfl T51
  obtain ⟨ps, _, c2⟩ := open_slice coP (fun _ => True) u51 z55 h2 (fun m us y hm _ hu => by obtain ⟨a, ha⟩ := open_co us y hu; exact ⟨a, trivial, ha⟩)
  refine ⟨⟨l, c, s, ps⟩, ?_⟩
  have hz := CR.seg (o := 0) c0 (CR.seg c1 (CR.last c2 hl))
  exact hz
theorem open_pa {fuel : Nat} (cs : List Value) (x : DataW H × List MemPlace) (h : DataW.trod enc Try.prog w 0 spare held fuel 62 cs = some x) : ∃ a : Pa, CR w cs (paP a) := by
  obtain ⟨n, hn, hl, hf⟩ := open_flds tok T62 rfl h
  obtain ⟨y0, h0⟩ := hf 0 0 9 I9 rfl T9
  obtain ⟨s, _, c0⟩ := op_s u9 h0
  obtain ⟨y1, h1⟩ := hf 1 1 26 I26 rfl T26
  obtain ⟨ty, c1⟩ := open_ty _ _ _ h1
  refine ⟨⟨s, ty⟩, ?_⟩
  have hz := CR.seg (o := 0) c0 (CR.last c1 hl)
  exact hz
theorem open_fu {fuel : Nat} (cs : List Value) (x : DataW H × List MemPlace) (h : DataW.trod enc Try.prog w 0 spare held fuel 60 cs = some x) : ∃ a : Fu, (fun f => wfEx f.body) a ∧ CR w cs (fuP a) := by
  obtain ⟨n, hn, hl, hf⟩ := open_flds tok T60 rfl h
  obtain ⟨y0, h0⟩ := hf 0 0 28 I28 rfl T28
  obtain ⟨l, c, c0⟩ := op_pos h0
  obtain ⟨y1, h1⟩ := hf 1 2 9 I9 rfl T9
  obtain ⟨s, _, c1⟩ := op_s u9 h1
  obtain ⟨y2, h2⟩ := hf 2 3 58 I58 rfl T58
  obtain ⟨ps, _, c2⟩ := open_slice paP (fun _ => True) u58 z62 h2 (fun m us y hm _ hu => by obtain ⟨a, ha⟩ := open_pa us y hu; exact ⟨a, trivial, ha⟩)
  obtain ⟨y3, h3⟩ := hf 3 4 26 I26 rfl T26
  obtain ⟨ty, c3⟩ := open_ty _ _ _ h3
  obtain ⟨y4, h4⟩ := hf 4 7 33 I33 rfl T33
  obtain ⟨e, he, c4⟩ := open_ex _ _ _ h4
  refine ⟨⟨l, c, s, ps, ty, e⟩, he, ?_⟩
  have hz := CR.seg (o := 0) c0 (CR.seg c1 (CR.seg c2 (CR.seg c3 (CR.last c4 hl))))
  exact hz
theorem open_ha {fuel : Nat} (cs : List Value) (x : DataW H × List MemPlace) (h : DataW.trod enc Try.prog w 0 spare held fuel 64 cs = some x) : ∃ a : Ha, (fun f => wfEx f.body) a ∧ CR w cs (haP a) := by
  obtain ⟨n, hn, hl, hf⟩ := open_flds tok T64 rfl h
  obtain ⟨y0, h0⟩ := hf 0 0 28 I28 rfl T28
  obtain ⟨l, c, c0⟩ := op_pos h0
  obtain ⟨y1, h1⟩ := hf 1 2 9 I9 rfl T9
  obtain ⟨s, _, c1⟩ := op_s u9 h1
  obtain ⟨y2, h2⟩ := hf 2 3 62 I62 rfl T62
  obtain ⟨pa, c2⟩ := open_pa _ _ h2
  obtain ⟨y3, h3⟩ := hf 3 7 3 I3 rfl T3
  obtain ⟨k, _, c3⟩ := op_i u3 h3
  obtain ⟨y4, h4⟩ := hf 4 8 33 I33 rfl T33
  obtain ⟨e, he, c4⟩ := open_ex _ _ _ h4
  refine ⟨⟨l, c, s, pa, k, e⟩, he, ?_⟩
  have hz := CR.seg (o := 0) c0 (CR.seg c1 (CR.seg c2 (CR.seg c3 (CR.last c4 hl))))
  exact hz
theorem open_pr {fuel : Nat} (cs : List Value) (x : DataW H × List MemPlace) (h : DataW.trod enc Try.prog w 0 spare held fuel 36 cs = some x) : ∃ a : Pr, wfPr a ∧ CR w cs (prP a) := by
  obtain ⟨n, hn, hl, hf⟩ := open_flds tok T36 rfl h
  obtain ⟨y0, h0⟩ := hf 0 0 22 I22 rfl T22
  obtain ⟨ds, _, c0⟩ := open_slice daP (fun _ => True) u22 z53 h0 (fun m us y hm _ hu => by obtain ⟨a, ha⟩ := open_da us y hu; exact ⟨a, trivial, ha⟩)
  obtain ⟨y1, h1⟩ := hf 1 1 23 I23 rfl T23
  obtain ⟨fs, hfs, c1⟩ := open_slice fuP (fun f => wfEx f.body) u23 z60 h1 (fun m us y hm _ hu => open_fu us y hu)
  obtain ⟨y2, h2⟩ := hf 2 2 3 I3 rfl T3
  obtain ⟨q, _, c2⟩ := op_i u3 h2
  obtain ⟨y3, h3⟩ := hf 3 3 3 I3 rfl T3
  obtain ⟨tm, _, c3⟩ := op_i u3 h3
  obtain ⟨y4, h4⟩ := hf 4 4 26 I26 rfl T26
  obtain ⟨ty, c4⟩ := open_ty _ _ _ h4
  obtain ⟨y5, h5⟩ := hf 5 7 3 I3 rfl T3
  obtain ⟨cp, _, c5⟩ := op_i u3 h5
  obtain ⟨y6, h6⟩ := hf 6 8 33 I33 rfl T33
  obtain ⟨e, he, c6⟩ := open_ex _ _ _ h6
  obtain ⟨y7, h7⟩ := hf 7 16 34 I34 rfl T34
  obtain ⟨hs, hhs, c7⟩ := open_slice haP (fun f => wfEx f.body) u34 z64 h7 (fun m us y hm _ hu => open_ha us y hu)
  refine ⟨⟨ds, fs, q, tm, ty, cp, e, hs⟩, ⟨hfs, hhs, he⟩, ?_⟩
  have hz := CR.seg (o := 0) c0 (CR.seg c1 (CR.seg c2 (CR.seg c3 (CR.seg c4 (CR.seg c5 (CR.seg c6 (CR.last c7 hl)))))))
  exact hz
end
theorem CR.agg {w : World} {vs : Array Value} {ps : List PV} (h : CR w vs.toList ps) : Rep (blockCells w) (fun _ => ⟨0, 0⟩) w 0 (.agg vs) (.agg ps) := by
  have := Rep.agg (G := blockCells w) (m := fun _ => ⟨0, 0⟩) (w := w) 0 vs.toList ps h.len h.rep
  simpa using this
end Go.Proofs.Ytgkagelejoknmaa.Deep

namespace Go.Proofs.Ytgkagelejoknmaa.Deep
open Go.ChangeShapes Go.WideShapes Go.ChangeAt Go.RowKit
set_option linter.unusedVariables false
theorem args_again {H : Type} {enc : TypeId × Value → H} {P : Program} {W W' : World} (hl : laidOutB P = true) (hb : Below W.heap.size W W') : ∀ (ts : List TypeId), (∀ t ∈ ts, P.readableRec t = true ∧ t < P.types.size) → ∀ (vs : List Value) (ds : List (DataW H)) (ps : List MemPlace),
    DataW.TrodAll enc P W 0 (fun _ => true) true ts vs ds ps → (∀ x ∈ ps, x.block < W.heap.size) → ∀ sp : Nat → Bool, (∀ x ∈ ps, sp x.block = true) → DataW.TrodAll enc P W' 0 sp true ts vs ds ps := by
  intro ts
  induction ts with
  | nil => intro _ vs ds ps h _ sp _; obtain ⟨rfl, rfl, rfl⟩ := trodAll_nil h; exact trodAll_mk0
  | cons t ts ih =>
    intro ht vs ds ps h hlt sp hsp
    obtain ⟨v, vs1, d, ds1, a, b, rfl, rfl, rfl, h1, h2⟩ := trodAll_cons h
    have h0 := ht t (by simp)
    exact trodAll_cons_mk (WideElems.Trod_stays hl h0.1 h0.2 h1 (fun x hx => hb.same (hlt x (List.mem_append_left _ hx))) (fun x hx => hsp x (List.mem_append_left _ hx)))
      (ih (fun t h => ht t (by simp [h])) _ _ _ h2 (fun x hx => hlt x (List.mem_append_right _ hx)) sp (fun x hx => hsp x (List.mem_append_right _ hx)))
theorem post_law {H : Type} {enc : TypeId × Value → H} {P : Program} {f : Func} {s : ChangeSpec} {apart fresh handsOn : Bool} {W W' : World} {args : Array Value} {v : Value} {ds gs : List (DataW H)} {before pa pv : List MemPlace}
    (hW : DataW.Whole enc P f.params.toList s.vars apart W args.toList ds gs before)
    (hres : ∀ (b : Nat) (sp : Nat → Bool) (hd : Bool), DataW.TrodAll enc P W' b sp hd f.resultTypes.toList (v.resultList f.resultTypes.size) (s.fn H (ds ++ gs)).results [])
    (hargs : ∀ sp : Nat → Bool, (∀ p ∈ before, sp p.block = true) → DataW.TrodAll enc P W' 0 sp true f.params.toList args.toList (s.fn H (ds ++ gs)).args pa)
    (hvars : ∀ sp : Nat → Bool, (∀ p ∈ before, sp p.block = true) → DataW.TrodVars enc P W' sp s.vars (s.fn H (ds ++ gs)).vars pv)
    (hps : before = pa ++ pv) (hb : Below W.heap.size W W') : s.post enc P f apart fresh handsOn false W args v W' := by
  have hold : ∀ p ∈ before, (fun b => decide (b < W.heap.size)) p.block = true := fun p hp => by simpa using hW.lt p hp
  exact ⟨ds, gs, before, [], pa, pv, hW, hres _ _ _, hargs _ hold, hvars _ hold, World.keptBut_mono (fun p hp => ⟨hp, Or.inr (List.mem_append.1 (hps ▸ hp))⟩) (hb.frame (· ∈ before)), fun h => by cases h⟩
theorem struct_of {P : Program} {T : TypeId → Option TI} (hT : Tok P T) {t : TypeId} {ti : TI} (hi : T t = some ti) (hst : ti.isStruct = true) : ∃ fs, P.underlying t = some (.struct fs) := by
  obtain ⟨h1, h2⟩ := hT t ti hi
  obtain ⟨d, hd⟩ := Option.isSome_iff_exists.1 h2
  subst h1
  unfold infoP at hst
  dsimp only at hst
  rw [hd] at hst
  cases d <;> first | exact ⟨_, hd⟩ | (exact absurd hst Bool.false_ne_true)
theorem open_arg {P : Program} {T : TypeId → Option TI} (hT : Tok P T) {α : Type} {H : Type} {enc : TypeId × Value → H} {M : α → Prop} {view : α → List PV} {t : TypeId} {ti : TI} (hi : T t = some ti) (hst : ti.isStruct = true) {W : World} {r : Reach} {b0 : Nat} {v : Value} {d : DataW H} {p : List MemPlace} (hv : Value.okWide P W r b0 t v)
    (h : DataW.Trod enc P W 0 (fun _ => true) true t v d p) (ho : ∀ (fuel : Nat) (cs : List Value) (x : DataW H × List MemPlace), DataW.trod enc P W 0 (fun _ => true) true fuel t cs = some x → ∃ a : α, M a ∧ CR W cs (view a)) :
    ∃ a : α, M a ∧ Rep (blockCells W) (fun _ => ⟨0, 0⟩) W 0 v (.agg (view a)) := by
  obtain ⟨fs, hfs⟩ := struct_of hT hi hst
  obtain ⟨cs, rfl, _⟩ := okWide_struct hfs hv
  obtain ⟨fuel, h⟩ := h
  obtain ⟨a, ha, hc⟩ := ho _ _ _ h
  exact ⟨a, ha, hc.agg⟩
theorem hs_start (P : Program) (W : World) : HS P (blockCells W) (fun _ => ⟨0, 0⟩) W [] := ⟨fun b hb => absurd hb (Nat.not_lt_zero _), fun b _ hb => absurd hb (Nat.not_lt_zero _), block_old⟩
theorem law_calls {f : FuncId} {ps : List PV} (h : PCalls Try.prog f ps (fun r => r = .con (.bool true))) {W : World} {vs : Array Value} (ha : Args (blockCells W) (fun _ => ⟨0, 0⟩) W 0 vs ps) : Calls Try.prog f vs W fun e W' => e = .returned (.bool true) ∧ Below W.heap.size W W' :=
  (h (blockCells W) (fun _ => ⟨0, 0⟩) W vs (hs_start _ W) ha).mono fun e W' ⟨v, r, h', G', m', he, ⟨hr, _⟩, hrep, _, hg⟩ => by
    subst hr
    obtain rfl := hrep.con_eq
    exact ⟨he, hg.below⟩
theorem args_list {w : World} {G : Nat → Nat} {m : Nat → Pl} {n : Nat} : ∀ (vs : List Value) (ps : List PV), vs.length = ps.length → (∀ i (h : i < vs.length) (h2 : i < ps.length), Rep G m w n vs[i] ps[i]) → Args G m w n vs.toArray ps := fun vs ps hl h => by
  refine ⟨by simpa using hl, fun i hi => ?_⟩
  have := h i (by omega) hi
  simp only [List.getD_eq_getElem?_getD, List.getElem?_eq_getElem hi, Option.getD_some]
  simpa [Array.getD, hl, hi] using this
end Go.Proofs.Ytgkagelejoknmaa.Deep

namespace Go.Proofs.Ytgkagelejoknmaa.Deep
open Go.ChangeShapes Go.WideShapes Go.ChangeAt Go.RowKit
set_option linter.unusedVariables false
theorem open_list {P : Program} {α : Type} (view : α → List PV) (M : α → Prop) {H : Type} {enc : TypeId × Value → H} {t e : TypeId} (ht : P.underlying t = some (.slice e)) (hs : 0 < P.cellsOf e) {W : World} {r : Reach} {b0 : Nat} {v : Value} {d : DataW H} {p : List MemPlace} (hv : Value.okWide P W r b0 t v)
    (h : DataW.Trod enc P W 0 (fun _ => true) true t v d p) (ho : ∀ n us y, us.length = P.cellsOf e → DataW.trod enc P W 0 (fun _ => true) true n e us = some y → ∃ a : α, M a ∧ CR W us (view a)) :
    ∃ zs : List α, (∀ a ∈ zs, M a) ∧ Rep (blockCells W) (fun _ => ⟨0, 0⟩) W 0 v (.sl (zs.map view)) := by
  obtain ⟨a, len, cap, rfl⟩ := okWide_slice ht hv
  obtain ⟨fuel, h⟩ := h
  obtain ⟨zs, hz, hc⟩ := open_slice view M ht hs h (fun n us y _ hl hu => ho n us y hl hu)
  exact ⟨zs, hz, hc.rep 0 (by simp)⟩
theorem open_str {P : Program} {H : Type} {enc : TypeId × Value → H} {t : TypeId} (ht : P.underlying t = some .string) {W : World} {r : Reach} {b0 : Nat} {v : Value} {d : DataW H} {p : List MemPlace} (hv : Value.okWide P W r b0 t v)
    (h : DataW.Trod enc P W 0 (fun _ => true) true t v d p) : ∃ s : ByteArray, s.size ≤ maxLen ∧ Rep (blockCells W) (fun _ => ⟨0, 0⟩) W 0 v (.con (.string s)) := by
  obtain ⟨s, rfl, _, _, hs⟩ := ChangeMaps.open_string ht hv h
  exact ⟨s, hs, .con _ _⟩
end Go.Proofs.Ytgkagelejoknmaa.Deep

namespace Go.Proofs.Ytgkagelejoknmaa.Deep
open Go.RowKit
set_option linter.unusedVariables false
def loops8 (id : Nat) : Option (List Nat × List (Nat × Sh)) := match Nat.beq id 3 with | true => some ([2], [(1, .int .i64), (5, .int .i64)]) | false => none
def p8 (i1 : Int) (s2 : ByteArray) (l3 : List (List PV)) (i4 : Int) (Q : PV → Heap → Prop) : Prop :=
∃ I5 : Nat → ((Int) × (Int) × Unit) → Prop, (∃ n, I5 n ((IntKind.wrap .i64 ((IntKind.wrap .i64 (i4 - 1)) - (minI (ByteArray.size s2 : Int) 1048576))), 0, ())) ∧ ∀ (n6 : Nat) (v7 : (Int) × (Int) × Unit), I5 n6 v7 →
  (br ((decide ((v7.2.1 : Int) < (List.length l3 : Int))))
  (br ((decide ((v7.1 : Int) ≥ 0)))
  (∃ i8 : Int, ∃ s9 : ByteArray, ∃ l10 : List (List PV), IdxN l3 v7.2.1 [i8, s9, l10]
  (∃ i11 : Int, CallN Try.prog 8 [(.agg [i8, s9, l10]), v7.1] [[i1, s2, l3]] i11
  ((@Eq PV (.ptr 0 0) (.ptr 0 0) ∧ True) ∧ @Eq Heap [[i1, s2, l3]] [[i1, s2, l3]] ∧ ∃ k12, k12 < n6 ∧ I5 k12 (i11, (IntKind.wrap .i64 (v7.2.1 + 1)), ()))))
  (Q v7.1 [[i1, s2, l3]]))
  (Q v7.1 [[i1, s2, l3]]))
theorem a8 (i1 : Int) (s2 : ByteArray) (l3 : List (List PV)) (i4 : Int) (Q : PV → Heap → Prop) (h : p8 i1 s2 l3 i4 Q) : ACalls Try.prog 8 [(.agg [i1, s2, l3]), i4] [] Q := by
  have hb : Option.some (bodyOf Try.f8) = Try.f8.body := by kernel_rfl
  exact acalls_eq (S := S) (L := loops8) mixed tok Try.func8 hb.symm (by kernel_rfl) h
def loops7 (id : Nat) : Option (List Nat × List (Nat × Sh)) := match Nat.beq id 7 with | true => some ([0, 4], [(3, .int .i64), (5, .int .i64)]) | false => match Nat.beq id 3 with | true => some ([0], [(3, .int .i64), (4, .int .i64)]) | false => none
def p7 (l1 : List (List PV)) (Q : PV → Heap → Prop) : Prop :=
∃ I2 : Nat → ((Int) × (Int) × Unit) → Prop, (∃ n, I2 n (2000, 0, ())) ∧ ∀ (n3 : Nat) (v4 : (Int) × (Int) × Unit), I2 n3 v4 →
  (br ((decide ((v4.2.1 : Int) < (List.length l1 : Int))))
  (br ((decide ((v4.1 : Int) ≥ 0)))
  (∃ i5 : Int, ∃ i6 : Int, ∃ s7 : ByteArray, ∃ l8 : List (List PV), IdxN l1 v4.2.1 [i5, i6, s7, l8]
  (∃ I9 : Nat → ((Int) × (Int) × Unit) → Prop, (∃ n, I9 n ((IntKind.wrap .i64 (v4.1 - (IntKind.wrap .i64 (1 + (minI (ByteArray.size s7 : Int) 2000))))), 0, ())) ∧ ∀ (n10 : Nat) (v11 : (Int) × (Int) × Unit), I9 n10 v11 →
  (∃ i12 : Int, ∃ i13 : Int, ∃ s14 : ByteArray, ∃ l15 : List (List PV), IdxN l1 v4.2.1 [i12, i13, s14, l15]
  (br ((decide ((v11.2.1 : Int) < (List.length l15 : Int))))
  (br ((decide ((v11.1 : Int) ≥ 0)))
  (∃ i16 : Int, ∃ i17 : Int, ∃ s18 : ByteArray, ∃ l19 : List (List PV), IdxN l1 v4.2.1 [i16, i17, s18, l19]
  (∃ s20 : ByteArray, ∃ l21 : List (List PV), IdxN l19 v11.2.1 [s20, l21]
  (∃ i22 : Int, ∃ i23 : Int, ∃ s24 : ByteArray, ∃ l25 : List (List PV), IdxN l1 v4.2.1 [i22, i23, s24, l25]
  (∃ s26 : ByteArray, ∃ l27 : List (List PV), IdxN l25 v11.2.1 [s26, l27]
  (∃ i28 : Int, CallN Try.prog 8 [(.agg [(.con (.int .i64 0)), s20, l27]), v11.1] [] i28
  ((@Eq PV l1 l1 ∧ @Eq PV v4.2.1 v4.2.1 ∧ True) ∧ @Eq Heap [] [] ∧ ∃ k29, k29 < n10 ∧ I9 k29 (i28, (IntKind.wrap .i64 (v11.2.1 + 1)), ())))))))
  ((@Eq PV l1 l1 ∧ True) ∧ @Eq Heap [] [] ∧ ∃ k30, k30 < n3 ∧ I2 k30 (v11.1, (IntKind.wrap .i64 (v4.2.1 + 1)), ())))
  ((@Eq PV l1 l1 ∧ True) ∧ @Eq Heap [] [] ∧ ∃ k31, k31 < n3 ∧ I2 k31 (v11.1, (IntKind.wrap .i64 (v4.2.1 + 1)), ()))))))
  (br ((decide ((v4.1 : Int) ≥ 0)))
  (Q (.con (.bool (decide (((List.length l1 : Int) : Int) ≤ 60)))) [])
  (Q (.con (.bool false)) [])))
  (br ((decide ((v4.1 : Int) ≥ 0)))
  (Q (.con (.bool (decide (((List.length l1 : Int) : Int) ≤ 60)))) [])
  (Q (.con (.bool false)) [])))
theorem a7 (l1 : List (List PV)) (Q : PV → Heap → Prop) (h : p7 l1 Q) : ACalls Try.prog 7 [l1] [] Q := by
  have hb : Option.some (bodyOf Try.f7) = Try.f7.body := by kernel_rfl
  exact acalls_eq (S := S) (L := loops7) mixed tok Try.func7 hb.symm (by kernel_rfl) h
def loops29 (id : Nat) : Option (List Nat × List (Nat × Sh)) := none
def p29 (i1 i2 : Int) (s3 : ByteArray) (l4 : List (List PV)) (s5 : ByteArray) (Q : PV → Heap → Prop) : Prop :=
Q (.con (.bool (ByteArray.toList s3 == ByteArray.toList s5))) [[i1, i2, s3, l4]]
theorem a29 (i1 i2 : Int) (s3 : ByteArray) (l4 : List (List PV)) (s5 : ByteArray) (Q : PV → Heap → Prop) (h : p29 i1 i2 s3 l4 s5 Q) : ACalls Try.prog 29 [(.agg [i1, i2, s3, l4]), (.ept [s5] 0)] [] Q := by
  have hb : Option.some (bodyOf Try.f29) = Try.f29.body := by kernel_rfl
  exact acalls_eq (S := S) (L := loops29) mixed tok Try.func29 hb.symm (by kernel_rfl) h
def loops28k (id : Nat) : Option (List Nat × List (Nat × Sh)) := match Nat.beq id 2 with | true => some ([0, 1, 7], [(8, .int .i64)]) | false => none
def p28k (l1 : List (List PV)) (s2 : ByteArray) (Q : PV → Heap → Prop) : Prop :=
∃ I3 : Nat → ((Int) × Unit) → Prop, (∃ n, I3 n (0, ())) ∧ ∀ (n4 : Nat) (v5 : (Int) × Unit), I3 n4 v5 →
  (br ((decide ((v5.1 : Int) < (List.length l1 : Int))))
  (∃ i6 : Int, ∃ i7 : Int, ∃ s8 : ByteArray, ∃ l9 : List (List PV), IdxN l1 v5.1 [i6, i7, s8, l9]
  (∃ b10 : Bool, CallN Try.prog 29 [(.agg [i6, i7, s8, l9]), (.ept [s2] 0)] [] b10
  (br (b10)
  (Q v5.1 [])
  ((@Eq PV l1 l1 ∧ @Eq PV (.fn 29 [(.ept [s2] 0)]) (.fn 29 [(.ept [s2] 0)]) ∧ @Eq PV (.con (.int .i64 (List.length l1 : Int))) (.con (.int .i64 (List.length l1 : Int))) ∧ True) ∧ @Eq Heap [] [] ∧ ∃ k11, k11 < n4 ∧ I3 k11 ((IntKind.wrap .i64 (v5.1 + 1)), ())))))
  (Q (.con (.int .i64 (-1))) []))
theorem a28k (l1 : List (List PV)) (s2 : ByteArray) (Q : PV → Heap → Prop) (h : p28k l1 s2 Q) : ACalls Try.prog 28 [l1, (.fn 29 [(.ept [s2] 0)])] [] Q := by
  have hb : Option.some (bodyOf Try.f28) = Try.f28.body := by kernel_rfl
  exact acalls_eq (S := S) (L := loops28k) mixed tok Try.func28 hb.symm (by kernel_rfl) h
def p15 (l1 : List (List PV)) (s2 : ByteArray) (Q : PV → Heap → Prop) : Prop :=
∃ i3 : Int, CallN Try.prog 28 [l1, (.fn 29 [(.ept [s2] 0)])] [[]] i3
  (Q i3 [[]])
theorem a15 (l1 : List (List PV)) (s2 : ByteArray) (Q : PV → Heap → Prop) (h : p15 l1 s2 Q) : ACalls Try.prog 15 [l1, s2] [] Q := by
  have hb : Option.some (bodyOf Try.f15) = Try.f15.body := by kernel_rfl
  exact acalls_eq (S := S) (L := loops29) mixed tok Try.func15 hb.symm (by kernel_rfl) h
def p24 (s1 : ByteArray) (l2 : List (List PV)) (s3 : ByteArray) (Q : PV → Heap → Prop) : Prop :=
Q (.con (.bool (ByteArray.toList s1 == ByteArray.toList s3))) [[s1, l2]]
theorem a24 (s1 : ByteArray) (l2 : List (List PV)) (s3 : ByteArray) (Q : PV → Heap → Prop) (h : p24 s1 l2 s3 Q) : ACalls Try.prog 24 [(.agg [s1, l2]), (.ept [s3] 0)] [] Q := by
  have hb : Option.some (bodyOf Try.f24) = Try.f24.body := by kernel_rfl
  exact acalls_eq (S := S) (L := loops29) mixed tok Try.func24 hb.symm (by kernel_rfl) h
def loops23k (id : Nat) : Option (List Nat × List (Nat × Sh)) := match Nat.beq id 2 with | true => some ([0, 1, 7], [(8, .int .i64)]) | false => none
def p23k (l1 : List (List PV)) (s2 : ByteArray) (Q : PV → Heap → Prop) : Prop :=
∃ I3 : Nat → ((Int) × Unit) → Prop, (∃ n, I3 n (0, ())) ∧ ∀ (n4 : Nat) (v5 : (Int) × Unit), I3 n4 v5 →
  (br ((decide ((v5.1 : Int) < (List.length l1 : Int))))
  (∃ s6 : ByteArray, ∃ l7 : List (List PV), IdxN l1 v5.1 [s6, l7]
  (∃ b8 : Bool, CallN Try.prog 24 [(.agg [s6, l7]), (.ept [s2] 0)] [] b8
  (br (b8)
  (Q v5.1 [])
  ((@Eq PV l1 l1 ∧ @Eq PV (.fn 24 [(.ept [s2] 0)]) (.fn 24 [(.ept [s2] 0)]) ∧ @Eq PV (.con (.int .i64 (List.length l1 : Int))) (.con (.int .i64 (List.length l1 : Int))) ∧ True) ∧ @Eq Heap [] [] ∧ ∃ k9, k9 < n4 ∧ I3 k9 ((IntKind.wrap .i64 (v5.1 + 1)), ())))))
  (Q (.con (.int .i64 (-1))) []))
theorem a23k (l1 : List (List PV)) (s2 : ByteArray) (Q : PV → Heap → Prop) (h : p23k l1 s2 Q) : ACalls Try.prog 23 [l1, (.fn 24 [(.ept [s2] 0)])] [] Q := by
  have hb : Option.some (bodyOf Try.f23) = Try.f23.body := by kernel_rfl
  exact acalls_eq (S := S) (L := loops23k) mixed tok Try.func23 hb.symm (by kernel_rfl) h
def q5_2 (l903 : List (List PV)) (s906 : ByteArray) (b907 : Bool) (v908 : (Int) × Unit) (i909 : Int) (i910 : Int) (l911 : List (List PV)) (i912 : Int) (n917 : Nat) (I918 : Nat → ((Int) × Unit) → Prop) (Q : PV → Heap → Prop) : Prop :=
  ∃ I900 : Nat → ((Int) × Unit) → Prop, (∃ n, I900 n (0, ())) ∧ ∀ (n901 : Nat) (v902 : (Int) × Unit), I900 n901 v902 →
(br ((decide ((v902.1 : Int) < (List.length l903 : Int))))
(∃ s904 : ByteArray, ∃ l905 : List (List PV), IdxN l903 v902.1 [s904, l905]
(br ((ByteArray.toList s904 == ByteArray.toList s906))
(br ((!b907))
(Q (.con (.bool false)) [[s904, l905]])
(br ((decide ((v908.1 : Int) < i909)))
(Q (.con (.bool false)) [[s904, l905]])
(br (((v908.1 : Int) == i909))
(br ((decide ((v902.1 : Int) < i910)))
(Q (.con (.bool false)) [[s904, l905]])
((@Eq PV l911 l911 ∧ @Eq PV s906 s906 ∧ @Eq PV i912 i912 ∧ @Eq PV i909 i909 ∧ @Eq PV i910 i910 ∧ @Eq PV b907 b907 ∧ @Eq PV v908.1 v908.1 ∧ @Eq PV (.con (.int .i64 (List.length l911 : Int))) (.con (.int .i64 (List.length l911 : Int))) ∧ @Eq PV v908.1 v908.1 ∧ @Eq PV l903 l903 ∧ @Eq PV (.con (.int .i64 (List.length l903 : Int))) (.con (.int .i64 (List.length l903 : Int))) ∧ True) ∧ @Eq Heap [] [] ∧ ∃ k913, k913 < n901 ∧ I900 k913 ((IntKind.wrap .i64 (v902.1 + 1)), ())))
((@Eq PV l911 l911 ∧ @Eq PV s906 s906 ∧ @Eq PV i912 i912 ∧ @Eq PV i909 i909 ∧ @Eq PV i910 i910 ∧ @Eq PV b907 b907 ∧ @Eq PV v908.1 v908.1 ∧ @Eq PV (.con (.int .i64 (List.length l911 : Int))) (.con (.int .i64 (List.length l911 : Int))) ∧ @Eq PV v908.1 v908.1 ∧ @Eq PV l903 l903 ∧ @Eq PV (.con (.int .i64 (List.length l903 : Int))) (.con (.int .i64 (List.length l903 : Int))) ∧ True) ∧ @Eq Heap [] [] ∧ ∃ k914, k914 < n901 ∧ I900 k914 ((IntKind.wrap .i64 (v902.1 + 1)), ())))))
((@Eq PV l911 l911 ∧ @Eq PV s906 s906 ∧ @Eq PV i912 i912 ∧ @Eq PV i909 i909 ∧ @Eq PV i910 i910 ∧ @Eq PV b907 b907 ∧ @Eq PV v908.1 v908.1 ∧ @Eq PV (.con (.int .i64 (List.length l911 : Int))) (.con (.int .i64 (List.length l911 : Int))) ∧ @Eq PV v908.1 v908.1 ∧ @Eq PV l903 l903 ∧ @Eq PV (.con (.int .i64 (List.length l903 : Int))) (.con (.int .i64 (List.length l903 : Int))) ∧ True) ∧ @Eq Heap [] [] ∧ ∃ k915, k915 < n901 ∧ I900 k915 ((IntKind.wrap .i64 (v902.1 + 1)), ()))))
((@Eq PV l911 l911 ∧ @Eq PV s906 s906 ∧ @Eq PV i912 i912 ∧ @Eq PV i909 i909 ∧ @Eq PV i910 i910 ∧ @Eq PV b907 b907 ∧ @Eq PV (.con (.int .i64 (List.length l911 : Int))) (.con (.int .i64 (List.length l911 : Int))) ∧ True) ∧ @Eq Heap [] [] ∧ ∃ k916, k916 < n917 ∧ I918 k916 ((IntKind.wrap .i64 (v908.1 + 1)), ())))
def q5_1 (l903 : List (List PV)) (i904 : Int) (s909 : ByteArray) (b919 : Bool) (i920 : Int) (i921 : Int) (Q : PV → Heap → Prop) : Prop :=
  ∃ I900 : Nat → ((Int) × Unit) → Prop, (∃ n, I900 n (0, ())) ∧ ∀ (n901 : Nat) (v902 : (Int) × Unit), I900 n901 v902 →
(br ((decide ((v902.1 : Int) < (List.length l903 : Int))))
(br ((decide ((i904 : Int) < 0)))
(∃ i905 : Int, ∃ i906 : Int, ∃ s907 : ByteArray, ∃ l908 : List (List PV), IdxN l903 v902.1 [i905, i906, s907, l908]
(br ((ByteArray.toList s907 == ByteArray.toList s909))
(Q (.con (.bool false)) [])
(∃ i910 : Int, ∃ i911 : Int, ∃ s912 : ByteArray, ∃ l913 : List (List PV), IdxN l903 v902.1 [i910, i911, s912, l913]
(q5_2 l913 s909 b919 v902 i920 i921 l903 i904 n901 I900 Q))))
(br ((decide ((v902.1 : Int) < i904)))
(∃ i926 : Int, ∃ i927 : Int, ∃ s928 : ByteArray, ∃ l929 : List (List PV), IdxN l903 v902.1 [i926, i927, s928, l929]
(br ((ByteArray.toList s928 == ByteArray.toList s909))
(Q (.con (.bool false)) [])
(∃ i930 : Int, ∃ i931 : Int, ∃ s932 : ByteArray, ∃ l933 : List (List PV), IdxN l903 v902.1 [i930, i931, s932, l933]
(q5_2 l933 s909 b919 v902 i920 i921 l903 i904 n901 I900 Q))))
(∃ i943 : Int, ∃ i944 : Int, ∃ s945 : ByteArray, ∃ l946 : List (List PV), IdxN l903 v902.1 [i943, i944, s945, l946]
(q5_2 l946 s909 b919 v902 i920 i921 l903 i904 n901 I900 Q))))
(∃ b956 : Bool, CallN Try.prog 9 [] [] b956
(Q b956 [])))
def p5 (l1 : List (List PV)) (s2 : ByteArray) (Q : PV → Heap → Prop) : Prop :=
∃ b3 : Bool, CallN Try.prog 7 [l1] [] b3
  (br ((!b3))
  (∃ b4 : Bool, CallN Try.prog 9 [] [] b4
  (Q b4 []))
  (br ((decide (((ByteArray.size s2 : Int) : Int) > 300)))
  (∃ b5 : Bool, CallN Try.prog 9 [] [] b5
  (Q b5 []))
  (∃ i6 : Int, CallN Try.prog 15 [l1, s2] [] i6
  (∃ i7 : Int, ∃ i8 : Int, ∃ b9 : Bool, CallN Try.prog 10 [l1, s2] [] (.tup [i7, i8, b9])
  (br ((decide ((i6 : Int) ≥ (List.length l1 : Int))))
  (Q (.con (.bool false)) [])
  (br ((decide ((i6 : Int) ≥ 0)))
  (∃ i10 : Int, ∃ i11 : Int, ∃ s12 : ByteArray, ∃ l13 : List (List PV), IdxN l1 i6 [i10, i11, s12, l13]
  (br ((!(ByteArray.toList s12 == ByteArray.toList s2)))
  (Q (.con (.bool false)) [])
  (br (b9)
  (br ((decide ((i7 : Int) < 0)))
  (Q (.con (.bool false)) [])
  (br ((decide ((i7 : Int) ≥ (List.length l1 : Int))))
  (Q (.con (.bool false)) [])
  (br ((decide ((i8 : Int) < 0)))
  (Q (.con (.bool false)) [])
  (∃ i14 : Int, ∃ i15 : Int, ∃ s16 : ByteArray, ∃ l17 : List (List PV), IdxN l1 i7 [i14, i15, s16, l17]
  (br ((decide ((i8 : Int) ≥ (List.length l17 : Int))))
  (Q (.con (.bool false)) [])
  (∃ i18 : Int, ∃ i19 : Int, ∃ s20 : ByteArray, ∃ l21 : List (List PV), IdxN l1 i7 [i18, i19, s20, l21]
  (∃ s22 : ByteArray, ∃ l23 : List (List PV), IdxN l21 i8 [s22, l23]
  (br ((!(ByteArray.toList s22 == ByteArray.toList s2)))
  (Q (.con (.bool false)) [])
  (q5_1 l1 i6 s2 b9 i7 i8 Q)))))))))
  (q5_1 l1 i6 s2 b9 i7 i8 Q))))
  (br (b9)
  (br ((decide ((i7 : Int) < 0)))
  (Q (.con (.bool false)) [])
  (br ((decide ((i7 : Int) ≥ (List.length l1 : Int))))
  (Q (.con (.bool false)) [])
  (br ((decide ((i8 : Int) < 0)))
  (Q (.con (.bool false)) [])
  (∃ i126 : Int, ∃ i127 : Int, ∃ s128 : ByteArray, ∃ l129 : List (List PV), IdxN l1 i7 [i126, i127, s128, l129]
  (br ((decide ((i8 : Int) ≥ (List.length l129 : Int))))
  (Q (.con (.bool false)) [])
  (∃ i130 : Int, ∃ i131 : Int, ∃ s132 : ByteArray, ∃ l133 : List (List PV), IdxN l1 i7 [i130, i131, s132, l133]
  (∃ s134 : ByteArray, ∃ l135 : List (List PV), IdxN l133 i8 [s134, l135]
  (br ((!(ByteArray.toList s134 == ByteArray.toList s2)))
  (Q (.con (.bool false)) [])
  (q5_1 l1 i6 s2 b9 i7 i8 Q)))))))))
  (q5_1 l1 i6 s2 b9 i7 i8 Q))))))))
end Go.Proofs.Ytgkagelejoknmaa.Deep

namespace Go.Proofs.Ytgkagelejoknmaa.Deep
open Go.RowKit
set_option linter.unusedVariables false
def loops18 (id : Nat) : Option (List Nat × List (Nat × Sh)) := match Nat.beq id 4 with | true => some ([0, 3], [(5, .int .i64)]) | false => none
def p18 (l1 : List (List PV)) (i2 : Int) (s3 : ByteArray) (l4 : List (List PV)) (Q : PV → Heap → Prop) : Prop :=
br (((i2 : Int) == 2))
  (∃ i5 : Int, CallN Try.prog 16 [l1, s3] [[i2, s3, l4]] i5
  (br ((decide ((i5 : Int) < 0)))
  (Q (.con (.bool false)) [[i2, s3, l4]])
  (∃ I6 : Nat → ((Int) × Unit) → Prop, (∃ n, I6 n (0, ())) ∧ ∀ (n7 : Nat) (v8 : (Int) × Unit), I6 n7 v8 →
  (br ((decide ((v8.1 : Int) < (List.length l4 : Int))))
  (∃ i9 : Int, ∃ s10 : ByteArray, ∃ l11 : List (List PV), IdxN l4 v8.1 [i9, s10, l11]
  (∃ b12 : Bool, CallN Try.prog 18 [l1, (.agg [i9, s10, l11])] [[i2, s3, l4]] b12
  (br ((!b12))
  (Q (.con (.bool false)) [[i2, s3, l4]])
  ((@Eq PV l1 l1 ∧ @Eq PV (.ptr 0 0) (.ptr 0 0) ∧ True) ∧ @Eq Heap [[i2, s3, l4]] [[i2, s3, l4]] ∧ ∃ k13, k13 < n7 ∧ I6 k13 ((IntKind.wrap .i64 (v8.1 + 1)), ())))))
  (Q (.con (.bool true)) [[i2, s3, l4]])))))
  (∃ I14 : Nat → ((Int) × Unit) → Prop, (∃ n, I14 n (0, ())) ∧ ∀ (n15 : Nat) (v16 : (Int) × Unit), I14 n15 v16 →
  (br ((decide ((v16.1 : Int) < (List.length l4 : Int))))
  (∃ i17 : Int, ∃ s18 : ByteArray, ∃ l19 : List (List PV), IdxN l4 v16.1 [i17, s18, l19]
  (∃ b20 : Bool, CallN Try.prog 18 [l1, (.agg [i17, s18, l19])] [[i2, s3, l4]] b20
  (br ((!b20))
  (Q (.con (.bool false)) [[i2, s3, l4]])
  ((@Eq PV l1 l1 ∧ @Eq PV (.ptr 0 0) (.ptr 0 0) ∧ True) ∧ @Eq Heap [[i2, s3, l4]] [[i2, s3, l4]] ∧ ∃ k21, k21 < n15 ∧ I14 k21 ((IntKind.wrap .i64 (v16.1 + 1)), ())))))
  (Q (.con (.bool true)) [[i2, s3, l4]])))
theorem a18 (l1 : List (List PV)) (i2 : Int) (s3 : ByteArray) (l4 : List (List PV)) (Q : PV → Heap → Prop) (h : p18 l1 i2 s3 l4 Q) : ACalls Try.prog 18 [l1, (.agg [i2, s3, l4])] [] Q := by
  have hb : Option.some (bodyOf Try.f18) = Try.f18.body := by kernel_rfl
  exact acalls_eq (S := S) (L := loops18) mixed tok Try.func18 hb.symm (by kernel_rfl) h
def loops16 (id : Nat) : Option (List Nat × List (Nat × Sh)) := match Nat.beq id 2 with | true => some ([0, 1], [(5, .int .i64)]) | false => none
def p16 (l1 : List (List PV)) (s2 : ByteArray) (Q : PV → Heap → Prop) : Prop :=
∃ I3 : Nat → ((Int) × Unit) → Prop, (∃ n, I3 n (0, ())) ∧ ∀ (n4 : Nat) (v5 : (Int) × Unit), I3 n4 v5 →
  (br ((decide ((v5.1 : Int) < (List.length l1 : Int))))
  (∃ i6 : Int, ∃ i7 : Int, ∃ s8 : ByteArray, ∃ l9 : List (List PV), IdxN l1 v5.1 [i6, i7, s8, l9]
  (br ((ByteArray.toList s8 == ByteArray.toList s2))
  (Q v5.1 [])
  ((@Eq PV l1 l1 ∧ @Eq PV s2 s2 ∧ True) ∧ @Eq Heap [] [] ∧ ∃ k10, k10 < n4 ∧ I3 k10 ((IntKind.wrap .i64 (v5.1 + 1)), ()))))
  (Q (.con (.int .i64 (-1))) []))
theorem a16 (l1 : List (List PV)) (s2 : ByteArray) (Q : PV → Heap → Prop) (h : p16 l1 s2 Q) : ACalls Try.prog 16 [l1, s2] [] Q := by
  have hb : Option.some (bodyOf Try.f16) = Try.f16.body := by kernel_rfl
  exact acalls_eq (S := S) (L := loops16) mixed tok Try.func16 hb.symm (by kernel_rfl) h
def loops11 (id : Nat) : Option (List Nat × List (Nat × Sh)) := match Nat.beq id 5 with | true => some ([0, 1, 7], [(8, .int .i64)]) | false => match Nat.beq id 2 with | true => some ([0, 1], [(7, .int .i64)]) | false => none
def p11 (l1 : List (List PV)) (s2 : ByteArray) (Q : PV → Heap → Prop) : Prop :=
∃ I3 : Nat → ((Int) × Unit) → Prop, (∃ n, I3 n (0, ())) ∧ ∀ (n4 : Nat) (v5 : (Int) × Unit), I3 n4 v5 →
  (br ((decide ((v5.1 : Int) < (List.length l1 : Int))))
  (∃ I6 : Nat → ((Int) × Unit) → Prop, (∃ n, I6 n (0, ())) ∧ ∀ (n7 : Nat) (v8 : (Int) × Unit), I6 n7 v8 →
  (∃ i9 : Int, ∃ i10 : Int, ∃ s11 : ByteArray, ∃ l12 : List (List PV), IdxN l1 v5.1 [i9, i10, s11, l12]
  (br ((decide ((v8.1 : Int) < (List.length l12 : Int))))
  (∃ i13 : Int, ∃ i14 : Int, ∃ s15 : ByteArray, ∃ l16 : List (List PV), IdxN l1 v5.1 [i13, i14, s15, l16]
  (∃ s17 : ByteArray, ∃ l18 : List (List PV), IdxN l16 v8.1 [s17, l18]
  (br ((ByteArray.toList s17 == ByteArray.toList s2))
  (Q (.tup [v5.1, v8.1, (.con (.bool true))]) [])
  ((@Eq PV l1 l1 ∧ @Eq PV s2 s2 ∧ @Eq PV v5.1 v5.1 ∧ True) ∧ @Eq Heap [] [] ∧ ∃ k19, k19 < n7 ∧ I6 k19 ((IntKind.wrap .i64 (v8.1 + 1)), ())))))
  ((@Eq PV l1 l1 ∧ @Eq PV s2 s2 ∧ True) ∧ @Eq Heap [] [] ∧ ∃ k20, k20 < n4 ∧ I3 k20 ((IntKind.wrap .i64 (v5.1 + 1)), ())))))
  (Q (.tup [(.con (.int .i64 0)), (.con (.int .i64 0)), (.con (.bool false))]) []))
theorem a11 (l1 : List (List PV)) (s2 : ByteArray) (Q : PV → Heap → Prop) (h : p11 l1 s2 Q) : ACalls Try.prog 11 [l1, s2] [] Q := by
  have hb : Option.some (bodyOf Try.f11) = Try.f11.body := by kernel_rfl
  exact acalls_eq (S := S) (L := loops11) mixed tok Try.func11 hb.symm (by kernel_rfl) h
def loops12 (id : Nat) : Option (List Nat × List (Nat × Sh)) := match Nat.beq id 9 with | true => some ([0, 1, 5], [(6, .int .i64)]) | false => match Nat.beq id 4 with | true => some ([0, 1], [(5, .int .i64)]) | false => none
def p12 (l1 l2 : List (List PV)) (Q : PV → Heap → Prop) : Prop :=
br ((((List.length l1 : Int) : Int) != (List.length l2 : Int)))
  (Q (.con (.bool false)) [])
  (∃ I3 : Nat → ((Int) × Unit) → Prop, (∃ n, I3 n (0, ())) ∧ ∀ (n4 : Nat) (v5 : (Int) × Unit), I3 n4 v5 →
  (br ((decide ((v5.1 : Int) < (List.length l1 : Int))))
  (∃ i6 : Int, ∃ i7 : Int, ∃ s8 : ByteArray, ∃ l9 : List (List PV), IdxN l1 v5.1 [i6, i7, s8, l9]
  (∃ i10 : Int, ∃ i11 : Int, ∃ s12 : ByteArray, ∃ l13 : List (List PV), IdxN l2 v5.1 [i10, i11, s12, l13]
  (br ((!(ByteArray.toList s8 == ByteArray.toList s12)))
  (Q (.con (.bool false)) [])
  (∃ i14 : Int, ∃ i15 : Int, ∃ s16 : ByteArray, ∃ l17 : List (List PV), IdxN l1 v5.1 [i14, i15, s16, l17]
  (∃ i18 : Int, ∃ i19 : Int, ∃ s20 : ByteArray, ∃ l21 : List (List PV), IdxN l2 v5.1 [i18, i19, s20, l21]
  (br ((((List.length l17 : Int) : Int) != (List.length l21 : Int)))
  (Q (.con (.bool false)) [])
  (∃ I22 : Nat → ((Int) × Unit) → Prop, (∃ n, I22 n (0, ())) ∧ ∀ (n23 : Nat) (v24 : (Int) × Unit), I22 n23 v24 →
  (∃ i25 : Int, ∃ i26 : Int, ∃ s27 : ByteArray, ∃ l28 : List (List PV), IdxN l1 v5.1 [i25, i26, s27, l28]
  (br ((decide ((v24.1 : Int) < (List.length l28 : Int))))
  (∃ i29 : Int, ∃ i30 : Int, ∃ s31 : ByteArray, ∃ l32 : List (List PV), IdxN l1 v5.1 [i29, i30, s31, l32]
  (∃ s33 : ByteArray, ∃ l34 : List (List PV), IdxN l32 v24.1 [s33, l34]
  (∃ i35 : Int, ∃ i36 : Int, ∃ s37 : ByteArray, ∃ l38 : List (List PV), IdxN l2 v5.1 [i35, i36, s37, l38]
  (∃ s39 : ByteArray, ∃ l40 : List (List PV), IdxN l38 v24.1 [s39, l40]
  (br ((!(ByteArray.toList s33 == ByteArray.toList s39)))
  (Q (.con (.bool false)) [[s33, l34], [s39, l40]])
  (∃ b41 : Bool, CallN Try.prog 20 [(.agg [(.con (.int .i64 0)), (.con (.string ⟨#[]⟩)), l34]), (.agg [(.con (.int .i64 0)), (.con (.string ⟨#[]⟩)), l40])] [[s33, l34], [s39, l40]] b41
  (br ((!b41))
  (Q (.con (.bool false)) [[s33, l34], [s39, l40]])
  ((@Eq PV l1 l1 ∧ @Eq PV l2 l2 ∧ @Eq PV v5.1 v5.1 ∧ True) ∧ @Eq Heap [] [] ∧ ∃ k42, k42 < n23 ∧ I22 k42 ((IntKind.wrap .i64 (v24.1 + 1)), ())))))))))
  ((@Eq PV l1 l1 ∧ @Eq PV l2 l2 ∧ True) ∧ @Eq Heap [] [] ∧ ∃ k43, k43 < n4 ∧ I3 k43 ((IntKind.wrap .i64 (v5.1 + 1)), ())))))))))))
  (Q (.con (.bool true)) [])))
theorem a12 (l1 l2 : List (List PV)) (Q : PV → Heap → Prop) (h : p12 l1 l2 Q) : ACalls Try.prog 12 [l1, l2] [] Q := by
  have hb : Option.some (bodyOf Try.f12) = Try.f12.body := by kernel_rfl
  exact acalls_eq (S := S) (L := loops12) mixed tok Try.func12 hb.symm (by kernel_rfl) h
def p20 (i1 : Int) (s2 : ByteArray) (l3 : List (List PV)) (i4 : Int) (s5 : ByteArray) (l6 : List (List PV)) (Q : PV → Heap → Prop) : Prop :=
∃ b7 : Bool, CallN Try.prog 33 [(.agg [i1, s2, l3]), (.agg [i4, s5, l6])] [[i1, s2, l3], [i4, s5, l6]] b7
  (Q b7 [[i1, s2, l3], [i4, s5, l6]])
theorem a20 (i1 : Int) (s2 : ByteArray) (l3 : List (List PV)) (i4 : Int) (s5 : ByteArray) (l6 : List (List PV)) (Q : PV → Heap → Prop) (h : p20 i1 s2 l3 i4 s5 l6 Q) : ACalls Try.prog 20 [(.agg [i1, s2, l3]), (.agg [i4, s5, l6])] [] Q := by
  have hb : Option.some (bodyOf Try.f20) = Try.f20.body := by kernel_rfl
  exact acalls_eq (S := S) (L := loops29) mixed tok Try.func20 hb.symm (by kernel_rfl) h
def loops33 (id : Nat) : Option (List Nat × List (Nat × Sh)) := match Nat.beq id 4 with | true => some ([2, 3], [(5, .int .i64)]) | false => none
def p33 (i1 : Int) (s2 : ByteArray) (l3 : List (List PV)) (i4 : Int) (s5 : ByteArray) (l6 : List (List PV)) (Q : PV → Heap → Prop) : Prop :=
br (((i1 : Int) != i4))
  (Q (.con (.bool false)) [[i1, s2, l3], [i4, s5, l6]])
  (br ((!(ByteArray.toList s2 == ByteArray.toList s5)))
  (Q (.con (.bool false)) [[i1, s2, l3], [i4, s5, l6]])
  (br ((((List.length l3 : Int) : Int) != (List.length l6 : Int)))
  (Q (.con (.bool false)) [[i1, s2, l3], [i4, s5, l6]])
  (∃ I7 : Nat → ((Int) × Unit) → Prop, (∃ n, I7 n (0, ())) ∧ ∀ (n8 : Nat) (v9 : (Int) × Unit), I7 n8 v9 →
  (br ((decide ((v9.1 : Int) < (List.length l3 : Int))))
  (∃ i10 : Int, ∃ s11 : ByteArray, ∃ l12 : List (List PV), IdxN l3 v9.1 [i10, s11, l12]
  (∃ i13 : Int, ∃ s14 : ByteArray, ∃ l15 : List (List PV), IdxN l6 v9.1 [i13, s14, l15]
  (∃ b16 : Bool, CallN Try.prog 33 [(.agg [i10, s11, l12]), (.agg [i13, s14, l15])] [[i1, s2, l3], [i4, s5, l6]] b16
  (br ((!b16))
  (Q (.con (.bool false)) [[i1, s2, l3], [i4, s5, l6]])
  ((@Eq PV (.ptr 0 0) (.ptr 0 0) ∧ @Eq PV (.ptr 1 0) (.ptr 1 0) ∧ True) ∧ @Eq Heap [[i1, s2, l3], [i4, s5, l6]] [[i1, s2, l3], [i4, s5, l6]] ∧ ∃ k17, k17 < n8 ∧ I7 k17 ((IntKind.wrap .i64 (v9.1 + 1)), ()))))))
  (Q (.con (.bool true)) [[i1, s2, l3], [i4, s5, l6]])))))
theorem a33 (i1 : Int) (s2 : ByteArray) (l3 : List (List PV)) (i4 : Int) (s5 : ByteArray) (l6 : List (List PV)) (Q : PV → Heap → Prop) (h : p33 i1 s2 l3 i4 s5 l6 Q) : ACalls Try.prog 33 [(.agg [i1, s2, l3]), (.agg [i4, s5, l6])] [] Q := by
  have hb : Option.some (bodyOf Try.f33) = Try.f33.body := by kernel_rfl
  exact acalls_eq (S := S) (L := loops33) mixed tok Try.func33 hb.symm (by kernel_rfl) h
def p14 (l1 l2 : List (List PV)) (i3 i4 i5 : Int) (s6 : ByteArray) (l7 : List (List PV)) (i8 i9 i10 i11 i12 : Int) (l13 : List (List PV)) (s14 : ByteArray) (l15 l16 l17 : List (List PV)) (Q : PV → Heap → Prop) : Prop :=
AppN [[(.con (.int .i64 0)), (.con (.int .i64 0)), (.con (.string ⟨#[98, 111, 111, 108]⟩)), (.sl [[(.con (.string ⟨#[70, 97, 108, 115, 101]⟩)), (.sl [])], [(.con (.string ⟨#[84, 114, 117, 101]⟩)), (.sl [])]])], [(.con (.int .i64 0)), (.con (.int .i64 0)), (.con (.string ⟨#[97, 99, 116]⟩)), (.sl [[(.con (.string ⟨#[68, 111, 110, 101]⟩)), (.sl [])], [(.con (.string ⟨#[83, 97, 121]⟩)), (.sl [[(.con (.int .i64 0)), (.con (.string ⟨#[]⟩)), (.sl [])], [(.con (.int .i64 2)), (.con (.string ⟨#[97, 99, 116]⟩)), (.sl [])]])], [(.con (.string ⟨#[84, 101, 108, 108]⟩)), (.sl [[(.con (.int .i64 1)), (.con (.string ⟨#[]⟩)), (.sl [])], [(.con (.int .i64 2)), (.con (.string ⟨#[97, 99, 116]⟩)), (.sl [])]])], [(.con (.string ⟨#[65, 114, 109]⟩)), (.sl [[(.con (.int .i64 0)), (.con (.string ⟨#[]⟩)), (.sl [])], [(.con (.int .i64 0)), (.con (.string ⟨#[]⟩)), (.sl [])], [(.con (.int .i64 2)), (.con (.string ⟨#[97, 99, 116]⟩)), (.sl [])]])], [(.con (.string ⟨#[83, 116, 111, 112]⟩)), (.sl [[(.con (.int .i64 0)), (.con (.string ⟨#[]⟩)), (.sl [])], [(.con (.int .i64 2)), (.con (.string ⟨#[97, 99, 116]⟩)), (.sl [])]])]])]] l1 4 56 PV.one
  (Q (.own 10 53 4 ([[(.con (.int .i64 0)), (.con (.int .i64 0)), (.con (.string ⟨#[98, 111, 111, 108]⟩)), (.sl [[(.con (.string ⟨#[70, 97, 108, 115, 101]⟩)), (.sl [])], [(.con (.string ⟨#[84, 114, 117, 101]⟩)), (.sl [])]])], [(.con (.int .i64 0)), (.con (.int .i64 0)), (.con (.string ⟨#[97, 99, 116]⟩)), (.sl [[(.con (.string ⟨#[68, 111, 110, 101]⟩)), (.sl [])], [(.con (.string ⟨#[83, 97, 121]⟩)), (.sl [[(.con (.int .i64 0)), (.con (.string ⟨#[]⟩)), (.sl [])], [(.con (.int .i64 2)), (.con (.string ⟨#[97, 99, 116]⟩)), (.sl [])]])], [(.con (.string ⟨#[84, 101, 108, 108]⟩)), (.sl [[(.con (.int .i64 1)), (.con (.string ⟨#[]⟩)), (.sl [])], [(.con (.int .i64 2)), (.con (.string ⟨#[97, 99, 116]⟩)), (.sl [])]])], [(.con (.string ⟨#[65, 114, 109]⟩)), (.sl [[(.con (.int .i64 0)), (.con (.string ⟨#[]⟩)), (.sl [])], [(.con (.int .i64 0)), (.con (.string ⟨#[]⟩)), (.sl [])], [(.con (.int .i64 2)), (.con (.string ⟨#[97, 99, 116]⟩)), (.sl [])]])], [(.con (.string ⟨#[83, 116, 111, 112]⟩)), (.sl [[(.con (.int .i64 0)), (.con (.string ⟨#[]⟩)), (.sl [])], [(.con (.int .i64 2)), (.con (.string ⟨#[97, 99, 116]⟩)), (.sl [])]])]])]] ++ l1)) [[l1, l2, i3, i4, i5, s6, l7, i8, i9, i10, i11, i12, l13, s14, l15, l16, l17], [(.con (.int .i64 0)), (.con (.string ⟨#[]⟩)), (.con (.slice none 0 0))], [(.con (.int .i64 2)), (.con (.string ⟨#[97, 99, 116]⟩)), (.con (.slice none 0 0))], [.tip], [.tip], [.tip], [.tip], [.tip], [.tip], [], [.tip]])
theorem a14 (l1 l2 : List (List PV)) (i3 i4 i5 : Int) (s6 : ByteArray) (l7 : List (List PV)) (i8 i9 i10 i11 i12 : Int) (l13 : List (List PV)) (s14 : ByteArray) (l15 l16 l17 : List (List PV)) (Q : PV → Heap → Prop) (h : p14 l1 l2 i3 i4 i5 s6 l7 i8 i9 i10 i11 i12 l13 s14 l15 l16 l17 Q) : ACalls Try.prog 14 [(.agg [l1, l2, i3, i4, i5, s6, l7, i8, i9, i10, i11, i12, l13, s14, l15, l16, l17])] [] Q := by
  have hb : Option.some (bodyOf Try.f14) = Try.f14.body := by kernel_rfl
  exact acalls_eq (S := S) (L := loops29) mixed tok Try.func14 hb.symm (by kernel_rfl) h
def loops43k (id : Nat) : Option (List Nat × List (Nat × Sh)) := match Nat.beq id 3 with | true => some ([1, 8, 9], [(5, .own 0 26 3), (10, .int .i64)]) | false => none
def p43k (l1 : List (List PV)) (Q : PV → Heap → Prop) : Prop :=
∃ I2 : Nat → ((List (List PV)) × (Int) × Unit) → Prop, (∃ n, I2 n ([], 0, ())) ∧ ∀ (n3 : Nat) (v4 : (List (List PV)) × (Int) × Unit), I2 n3 v4 →
  (br ((decide ((v4.2.1 : Int) < (List.length l1 : Int))))
  (∃ i5 : Int, ∃ s6 : ByteArray, ∃ l7 : List (List PV), IdxN l1 v4.2.1 [i5, s6, l7]
  (∃ i8 : Int, ∃ s9 : ByteArray, ∃ l10 : List (List PV), CallN Try.prog 44 [(.agg [i5, s6, l7])] [[.tip], [i5, s6, l7]] (.agg [i8, s9, l10])
  (AppN v4.1 [[i8, s9, l10]] 3 48 PV.one
  ((@Eq PV (.fn 44 []) (.fn 44 []) ∧ @Eq PV l1 l1 ∧ @Eq PV (.con (.int .i64 (List.length l1 : Int))) (.con (.int .i64 (List.length l1 : Int))) ∧ True) ∧ @Eq Heap [] [] ∧ ∃ k11, k11 < n3 ∧ I2 k11 ((v4.1 ++ ([[i8, s9, l10]] : List (List PV))), (IntKind.wrap .i64 (v4.2.1 + 1)), ())))))
  (Q (.own 0 26 3 v4.1) [[.tip]]))
theorem a43k (l1 : List (List PV)) (Q : PV → Heap → Prop) (h : p43k l1 Q) : ACalls Try.prog 43 [l1, (.fn 44 [])] [] Q := by
  have hb : Option.some (bodyOf Try.f43) = Try.f43.body := by kernel_rfl
  exact acalls_eq (S := S) (L := loops43k) mixed tok Try.func43 hb.symm (by kernel_rfl) h
def p44 (i1 : Int) (s2 : ByteArray) (l3 : List (List PV)) (Q : PV → Heap → Prop) : Prop :=
∃ l4 : List (List PV), CallN Try.prog 43 [l3, (.fn 44 [])] [[i1, s2, l3], [(.con (.int .i64 0)), (.con (.string ⟨#[]⟩)), (.con (.slice none 0 0))]] l4
  (Q (.agg [i1, s2, l4]) [[i1, s2, l4], [i1, s2, l4]])
theorem a44 (i1 : Int) (s2 : ByteArray) (l3 : List (List PV)) (Q : PV → Heap → Prop) (h : p44 i1 s2 l3 Q) : ACalls Try.prog 44 [(.agg [i1, s2, l3])] [] Q := by
  have hb : Option.some (bodyOf Try.f44) = Try.f44.body := by kernel_rfl
  exact acalls_eq (S := S) (L := loops29) mixed tok Try.func44 hb.symm (by kernel_rfl) h
def loops39k (id : Nat) : Option (List Nat × List (Nat × Sh)) := match Nat.beq id 3 with | true => some ([1, 8, 9], [(5, .own 0 55 2), (10, .int .i64)]) | false => none
def p39k (l1 : List (List PV)) (Q : PV → Heap → Prop) : Prop :=
∃ I2 : Nat → ((List (List PV)) × (Int) × Unit) → Prop, (∃ n, I2 n ([], 0, ())) ∧ ∀ (n3 : Nat) (v4 : (List (List PV)) × (Int) × Unit), I2 n3 v4 →
  (br ((decide ((v4.2.1 : Int) < (List.length l1 : Int))))
  (∃ s5 : ByteArray, ∃ l6 : List (List PV), IdxN l1 v4.2.1 [s5, l6]
  (∃ s7 : ByteArray, ∃ l8 : List (List PV), CallN Try.prog 40 [(.agg [s5, l6])] [[.tip], [s5, l6]] (.agg [s7, l8])
  (AppN v4.1 [[s7, l8]] 2 40 PV.one
  ((@Eq PV (.fn 40 []) (.fn 40 []) ∧ @Eq PV l1 l1 ∧ @Eq PV (.con (.int .i64 (List.length l1 : Int))) (.con (.int .i64 (List.length l1 : Int))) ∧ True) ∧ @Eq Heap [] [] ∧ ∃ k9, k9 < n3 ∧ I2 k9 ((v4.1 ++ ([[s7, l8]] : List (List PV))), (IntKind.wrap .i64 (v4.2.1 + 1)), ())))))
  (Q (.own 0 55 2 v4.1) [[.tip]]))
theorem a39k (l1 : List (List PV)) (Q : PV → Heap → Prop) (h : p39k l1 Q) : ACalls Try.prog 39 [l1, (.fn 40 [])] [] Q := by
  have hb : Option.some (bodyOf Try.f39) = Try.f39.body := by kernel_rfl
  exact acalls_eq (S := S) (L := loops39k) mixed tok Try.func39 hb.symm (by kernel_rfl) h
def p40 (s1 : ByteArray) (l2 : List (List PV)) (Q : PV → Heap → Prop) : Prop :=
∃ l3 : List (List PV), CallN Try.prog 43 [l2, (.fn 44 [])] [[s1, l2], [(.con (.string ⟨#[]⟩)), (.con (.slice none 0 0))]] l3
  (Q (.agg [s1, l3]) [[s1, l3], [s1, l3]])
theorem a40 (s1 : ByteArray) (l2 : List (List PV)) (Q : PV → Heap → Prop) (h : p40 s1 l2 Q) : ACalls Try.prog 40 [(.agg [s1, l2])] [] Q := by
  have hb : Option.some (bodyOf Try.f40) = Try.f40.body := by kernel_rfl
  exact acalls_eq (S := S) (L := loops29) mixed tok Try.func40 hb.symm (by kernel_rfl) h
def loops26k (id : Nat) : Option (List Nat × List (Nat × Sh)) := match Nat.beq id 3 with | true => some ([1, 8, 9], [(5, .own 0 53 4), (10, .int .i64)]) | false => none
def p26k (l1 : List (List PV)) (Q : PV → Heap → Prop) : Prop :=
∃ I2 : Nat → ((List (List PV)) × (Int) × Unit) → Prop, (∃ n, I2 n ([], 0, ())) ∧ ∀ (n3 : Nat) (v4 : (List (List PV)) × (Int) × Unit), I2 n3 v4 →
  (br ((decide ((v4.2.1 : Int) < (List.length l1 : Int))))
  (∃ i5 : Int, ∃ i6 : Int, ∃ s7 : ByteArray, ∃ l8 : List (List PV), IdxN l1 v4.2.1 [i5, i6, s7, l8]
  (∃ i9 : Int, ∃ i10 : Int, ∃ s11 : ByteArray, ∃ l12 : List (List PV), CallN Try.prog 27 [(.agg [i5, i6, s7, l8])] [[.tip], [i5, i6, s7, l8]] (.agg [i9, i10, s11, l12])
  (AppN v4.1 [[i9, i10, s11, l12]] 4 56 PV.one
  ((@Eq PV (.fn 27 []) (.fn 27 []) ∧ @Eq PV l1 l1 ∧ @Eq PV (.con (.int .i64 (List.length l1 : Int))) (.con (.int .i64 (List.length l1 : Int))) ∧ True) ∧ @Eq Heap [] [] ∧ ∃ k13, k13 < n3 ∧ I2 k13 ((v4.1 ++ ([[i9, i10, s11, l12]] : List (List PV))), (IntKind.wrap .i64 (v4.2.1 + 1)), ())))))
  (Q (.own 0 53 4 v4.1) [[.tip]]))
theorem a26k (l1 : List (List PV)) (Q : PV → Heap → Prop) (h : p26k l1 Q) : ACalls Try.prog 26 [l1, (.fn 27 [])] [] Q := by
  have hb : Option.some (bodyOf Try.f26) = Try.f26.body := by kernel_rfl
  exact acalls_eq (S := S) (L := loops26k) mixed tok Try.func26 hb.symm (by kernel_rfl) h
def p27 (i1 i2 : Int) (s3 : ByteArray) (l4 : List (List PV)) (Q : PV → Heap → Prop) : Prop :=
∃ l5 : List (List PV), CallN Try.prog 39 [l4, (.fn 40 [])] [[i1, i2, s3, l4], [(.con (.int .i64 0)), (.con (.int .i64 0)), (.con (.string ⟨#[]⟩)), (.con (.slice none 0 0))]] l5
  (Q (.agg [i1, i2, s3, l5]) [[i1, i2, s3, l5], [i1, i2, s3, l5]])
theorem a27 (i1 i2 : Int) (s3 : ByteArray) (l4 : List (List PV)) (Q : PV → Heap → Prop) (h : p27 i1 i2 s3 l4 Q) : ACalls Try.prog 27 [(.agg [i1, i2, s3, l4])] [] Q := by
  have hb : Option.some (bodyOf Try.f27) = Try.f27.body := by kernel_rfl
  exact acalls_eq (S := S) (L := loops29) mixed tok Try.func27 hb.symm (by kernel_rfl) h
def p25  (Q : PV → Heap → Prop) : Prop :=
Q (.own 0 53 4 [[(.con (.int .i64 0)), (.con (.int .i64 0)), (.con (.string ⟨#[98, 111, 111, 108]⟩)), (.sl [[(.con (.string ⟨#[70, 97, 108, 115, 101]⟩)), (.sl [])], [(.con (.string ⟨#[84, 114, 117, 101]⟩)), (.sl [])]])], [(.con (.int .i64 0)), (.con (.int .i64 0)), (.con (.string ⟨#[97, 99, 116]⟩)), (.sl [[(.con (.string ⟨#[68, 111, 110, 101]⟩)), (.sl [])], [(.con (.string ⟨#[83, 97, 121]⟩)), (.sl [[(.con (.int .i64 0)), (.con (.string ⟨#[]⟩)), (.sl [])], [(.con (.int .i64 2)), (.con (.string ⟨#[97, 99, 116]⟩)), (.sl [])]])], [(.con (.string ⟨#[84, 101, 108, 108]⟩)), (.sl [[(.con (.int .i64 1)), (.con (.string ⟨#[]⟩)), (.sl [])], [(.con (.int .i64 2)), (.con (.string ⟨#[97, 99, 116]⟩)), (.sl [])]])], [(.con (.string ⟨#[65, 114, 109]⟩)), (.sl [[(.con (.int .i64 0)), (.con (.string ⟨#[]⟩)), (.sl [])], [(.con (.int .i64 0)), (.con (.string ⟨#[]⟩)), (.sl [])], [(.con (.int .i64 2)), (.con (.string ⟨#[97, 99, 116]⟩)), (.sl [])]])], [(.con (.string ⟨#[83, 116, 111, 112]⟩)), (.sl [[(.con (.int .i64 0)), (.con (.string ⟨#[]⟩)), (.sl [])], [(.con (.int .i64 2)), (.con (.string ⟨#[97, 99, 116]⟩)), (.sl [])]])]])]]) [[.tip]]
theorem a25  (Q : PV → Heap → Prop) (h : p25  Q) : ACalls Try.prog 25 [] [] Q := by
  have hb : Option.some (bodyOf Try.f25) = Try.f25.body := by kernel_rfl
  exact acalls_canon (res := [.cell (.own 0 53 4)]) (post := [.tip]) (acalls_eq (S := S) (L := loops29) mixed tok Try.func25 hb.symm (by kernel_rfl) h)
def p13 (l1 l2 : List (List PV)) (i3 i4 i5 : Int) (s6 : ByteArray) (l7 : List (List PV)) (i8 i9 i10 i11 i12 : Int) (l13 : List (List PV)) (s14 : ByteArray) (l15 l16 l17 : List (List PV)) (Q : PV → Heap → Prop) : Prop :=
∃ l18 : List (List PV), CallF Try.prog 25 [] [] (.own 0 53 4 l18) [[.tip]]
  (∃ l19 : List (List PV), CallN Try.prog 26 [l1, (.fn 27 [])] [[l1, l2, i3, i4, i5, s6, l7, i8, i9, i10, i11, i12, l13, s14, l15, l16, l17], [.tip]] l19
  (AppN l18 l19 4 56 PV.one
  (Q (.own 2 53 4 (l18 ++ l19)) [[l1, l2, i3, i4, i5, s6, l7, i8, i9, i10, i11, i12, l13, s14, l15, l16, l17], [], [.tip]])))
theorem a13 (l1 l2 : List (List PV)) (i3 i4 i5 : Int) (s6 : ByteArray) (l7 : List (List PV)) (i8 i9 i10 i11 i12 : Int) (l13 : List (List PV)) (s14 : ByteArray) (l15 l16 l17 : List (List PV)) (Q : PV → Heap → Prop) (h : p13 l1 l2 i3 i4 i5 s6 l7 i8 i9 i10 i11 i12 l13 s14 l15 l16 l17 Q) : ACalls Try.prog 13 [(.agg [l1, l2, i3, i4, i5, s6, l7, i8, i9, i10, i11, i12, l13, s14, l15, l16, l17])] [] Q := by
  have hb : Option.some (bodyOf Try.f13) = Try.f13.body := by kernel_rfl
  exact acalls_eq (S := S) (L := loops29) mixed tok Try.func13 hb.symm (by kernel_rfl) h
def loops32k (id : Nat) : Option (List Nat × List (Nat × Sh)) := match Nat.beq id 4 with | true => some ([1, 2, 15, 16], [(17, .int .i64)]) | false => none
def p32k (l1 l2 : List (List PV)) (Q : PV → Heap → Prop) : Prop :=
br ((((List.length l1 : Int) : Int) != (List.length l2 : Int)))
  (Q (.con (.bool false)) [])
  (∃ I3 : Nat → ((Int) × Unit) → Prop, (∃ n, I3 n (0, ())) ∧ ∀ (n4 : Nat) (v5 : (Int) × Unit), I3 n4 v5 →
  (br ((decide ((v5.1 : Int) < (List.length l1 : Int))))
  (∃ i6 : Int, ∃ s7 : ByteArray, ∃ l8 : List (List PV), IdxN l1 v5.1 [i6, s7, l8]
  (∃ i9 : Int, ∃ s10 : ByteArray, ∃ l11 : List (List PV), IdxN l2 v5.1 [i9, s10, l11]
  (∃ b12 : Bool, CallN Try.prog 19 [(.agg [i6, s7, l8]), (.agg [i9, s10, l11])] [[i6, s7, l8], [i9, s10, l11]] b12
  (br ((!b12))
  (Q (.con (.bool false)) [[i6, s7, l8], [i9, s10, l11]])
  ((@Eq PV l2 l2 ∧ @Eq PV (.fn 19 []) (.fn 19 []) ∧ @Eq PV l1 l1 ∧ @Eq PV (.con (.int .i64 (List.length l1 : Int))) (.con (.int .i64 (List.length l1 : Int))) ∧ True) ∧ @Eq Heap [] [] ∧ ∃ k13, k13 < n4 ∧ I3 k13 ((IntKind.wrap .i64 (v5.1 + 1)), ()))))))
  (Q (.con (.bool true)) [])))
theorem a32k (l1 l2 : List (List PV)) (Q : PV → Heap → Prop) (h : p32k l1 l2 Q) : ACalls Try.prog 32 [l1, l2, (.fn 19 [])] [] Q := by
  have hb : Option.some (bodyOf Try.f32) = Try.f32.body := by kernel_rfl
  exact acalls_eq (S := S) (L := loops32k) mixed tok Try.func32 hb.symm (by kernel_rfl) h
def p19 (i1 : Int) (s2 : ByteArray) (l3 : List (List PV)) (i4 : Int) (s5 : ByteArray) (l6 : List (List PV)) (Q : PV → Heap → Prop) : Prop :=
br (((i1 : Int) == i4))
  (br ((ByteArray.toList s2 == ByteArray.toList s5))
  (∃ b7 : Bool, CallN Try.prog 32 [l3, l6, (.fn 19 [])] [[i1, s2, l3], [i4, s5, l6]] b7
  (Q b7 [[i1, s2, l3], [i4, s5, l6]]))
  (Q (.con (.bool false)) [[i1, s2, l3], [i4, s5, l6]]))
  (Q (.con (.bool false)) [[i1, s2, l3], [i4, s5, l6]])
theorem a19 (i1 : Int) (s2 : ByteArray) (l3 : List (List PV)) (i4 : Int) (s5 : ByteArray) (l6 : List (List PV)) (Q : PV → Heap → Prop) (h : p19 i1 s2 l3 i4 s5 l6 Q) : ACalls Try.prog 19 [(.agg [i1, s2, l3]), (.agg [i4, s5, l6])] [] Q := by
  have hb : Option.some (bodyOf Try.f19) = Try.f19.body := by kernel_rfl
  exact acalls_eq (S := S) (L := loops29) mixed tok Try.func19 hb.symm (by kernel_rfl) h
def loops34k (id : Nat) : Option (List Nat × List (Nat × Sh)) := match Nat.beq id 3 with | true => some ([1, 8, 9], [(5, .own 0 4 1), (10, .int .i64)]) | false => none
def p34k (l1 : List (List PV)) (Q : PV → Heap → Prop) : Prop :=
∃ I2 : Nat → ((List (List PV)) × (Int) × Unit) → Prop, (∃ n, I2 n ([], 0, ())) ∧ ∀ (n3 : Nat) (v4 : (List (List PV)) × (Int) × Unit), I2 n3 v4 →
  (br ((decide ((v4.2.1 : Int) < (List.length l1 : Int))))
  (∃ i5 : Int, ∃ i6 : Int, ∃ s7 : ByteArray, ∃ l8 : List (List PV), IdxN l1 v4.2.1 [i5, i6, s7, l8]
  (∃ b9 : Bool, CallN Try.prog 35 [(.agg [i5, i6, s7, l8])] [[.tip], [i5, i6, s7, l8]] b9
  (AppN v4.1 [[b9]] 1 1 PV.one
  ((@Eq PV (.fn 35 []) (.fn 35 []) ∧ @Eq PV l1 l1 ∧ @Eq PV (.con (.int .i64 (List.length l1 : Int))) (.con (.int .i64 (List.length l1 : Int))) ∧ True) ∧ @Eq Heap [] [] ∧ ∃ k10, k10 < n3 ∧ I2 k10 ((v4.1 ++ ([[b9]] : List (List PV))), (IntKind.wrap .i64 (v4.2.1 + 1)), ())))))
  (Q (.own 0 4 1 v4.1) [[.tip]]))
theorem a34k (l1 : List (List PV)) (Q : PV → Heap → Prop) (h : p34k l1 Q) : ACalls Try.prog 34 [l1, (.fn 35 [])] [] Q := by
  have hb : Option.some (bodyOf Try.f34) = Try.f34.body := by kernel_rfl
  exact acalls_eq (S := S) (L := loops34k) mixed tok Try.func34 hb.symm (by kernel_rfl) h
def p35 (i1 i2 : Int) (s3 : ByteArray) (l4 : List (List PV)) (Q : PV → Heap → Prop) : Prop :=
Q (.con (.bool false)) [[i1, i2, s3, l4]]
theorem a35 (i1 i2 : Int) (s3 : ByteArray) (l4 : List (List PV)) (Q : PV → Heap → Prop) (h : p35 i1 i2 s3 l4 Q) : ACalls Try.prog 35 [(.agg [i1, i2, s3, l4])] [] Q := by
  have hb : Option.some (bodyOf Try.f35) = Try.f35.body := by kernel_rfl
  exact acalls_eq (S := S) (L := loops29) mixed tok Try.func35 hb.symm (by kernel_rfl) h
def loops37 (id : Nat) : Option (List Nat × List (Nat × Sh)) := match Nat.beq id 7 with | true => some ([3, 5, 13, 14, 15, 21, 22], [(4, .own 0 96 2), (23, .int .i64)]) | false => match Nat.beq id 4 with | true => some ([3, 13, 14], [(4, .own 0 96 2), (15, .int .i64)]) | false => none
def p37 (l1 : List (List PV)) (Q : PV → Heap → Prop) : Prop :=
∃ n2 : Nat, ∃ D3 : DataW Unit, CallF Try.prog 30 [l1] [] (.mp 0) [[(.mpc 9 3 n2 D3)]]
  (∃ I4 : Nat → ((List (List PV)) × (Int) × Unit) → Prop, (∃ n, I4 n ([], 0, ())) ∧ ∀ (n5 : Nat) (v6 : (List (List PV)) × (Int) × Unit), I4 n5 v6 →
  (br ((decide ((v6.2.1 : Int) < (List.length l1 : Int))))
  (∃ i7 : Int, ∃ i8 : Int, ∃ s9 : ByteArray, ∃ l10 : List (List PV), IdxN l1 v6.2.1 [i7, i8, s9, l10]
  (∃ I11 : Nat → ((List (List PV)) × (Int) × Unit) → Prop, (∃ n, I11 n (v6.1, 0, ())) ∧ ∀ (n12 : Nat) (v13 : (List (List PV)) × (Int) × Unit), I11 n12 v13 →
  (br ((decide ((v13.2.1 : Int) < (List.length l10 : Int))))
  (∃ s14 : ByteArray, ∃ l15 : List (List PV), IdxN l10 v13.2.1 [s14, l15]
  (∃ l16 : List (List PV), ∃ b17 : Bool, CallF Try.prog 42 [(.mp 0), (.own 1 3 1 []), l15] [[(.mpc 9 3 n2 D3)], [.tip]] (.tup [(.own 2 3 1 l16), b17]) [[(.mpc 9 3 n2 D3)], [], [.tip]]
  (br (b17)
  (AppN v13.1 [[v6.2.1, l16]] 2 32 PV.one
  ((@Eq PV (.mp 0) (.mp 0) ∧ @Eq PV v6.2.1 v6.2.1 ∧ @Eq PV l1 l1 ∧ @Eq PV (.con (.int .i64 (List.length l1 : Int))) (.con (.int .i64 (List.length l1 : Int))) ∧ @Eq PV v6.2.1 v6.2.1 ∧ @Eq PV l10 l10 ∧ @Eq PV (.con (.int .i64 (List.length l10 : Int))) (.con (.int .i64 (List.length l10 : Int))) ∧ True) ∧ @Eq Heap [[(.mpc 9 3 n2 D3)], [], [i7, i8, s9, l10]] [[(.mpc 9 3 n2 D3)], [], [i7, i8, s9, l10]] ∧ ∃ k18, k18 < n12 ∧ I11 k18 ((v13.1 ++ ([[v6.2.1, l16]] : List (List PV))), (IntKind.wrap .i64 (v13.2.1 + 1)), ())))
  ((@Eq PV (.mp 0) (.mp 0) ∧ @Eq PV v6.2.1 v6.2.1 ∧ @Eq PV l1 l1 ∧ @Eq PV (.con (.int .i64 (List.length l1 : Int))) (.con (.int .i64 (List.length l1 : Int))) ∧ @Eq PV v6.2.1 v6.2.1 ∧ @Eq PV l10 l10 ∧ @Eq PV (.con (.int .i64 (List.length l10 : Int))) (.con (.int .i64 (List.length l10 : Int))) ∧ True) ∧ @Eq Heap [[(.mpc 9 3 n2 D3)], [], [i7, i8, s9, l10]] [[(.mpc 9 3 n2 D3)], [], [i7, i8, s9, l10]] ∧ ∃ k19, k19 < n12 ∧ I11 k19 (v13.1, (IntKind.wrap .i64 (v13.2.1 + 1)), ())))))
  ((@Eq PV (.mp 0) (.mp 0) ∧ @Eq PV l1 l1 ∧ @Eq PV (.con (.int .i64 (List.length l1 : Int))) (.con (.int .i64 (List.length l1 : Int))) ∧ True) ∧ @Eq Heap [[(.mpc 9 3 n2 D3)]] [[(.mpc 9 3 n2 D3)]] ∧ ∃ k20, k20 < n5 ∧ I4 k20 (v13.1, (IntKind.wrap .i64 (v6.2.1 + 1)), ())))))
  (Q (.own 1 96 2 v6.1) [[(.mpc 9 3 n2 D3)], [.tip]])))
theorem a37 (l1 : List (List PV)) (Q : PV → Heap → Prop) (h : p37 l1 Q) : ACalls Try.prog 37 [l1] [] Q := by
  have hb : Option.some (bodyOf Try.f37) = Try.f37.body := by kernel_rfl
  exact acalls_eq (S := S) (L := loops37) mixed tok Try.func37 hb.symm (by kernel_rfl) h
def p9  (Q : PV → Heap → Prop) : Prop :=
∃ l1 : List (List PV), CallN Try.prog 13 [(.agg [(.sl []), (.sl []), (.con (.int .i64 0)), (.con (.int .i64 0)), (.con (.int .i64 0)), (.con (.string ⟨#[]⟩)), (.sl []), (.con (.int .i64 0)), (.con (.int .i64 0)), (.con (.int .i64 0)), (.con (.int .i64 0)), (.con (.int .i64 0)), (.sl []), (.con (.string ⟨#[]⟩)), (.sl []), (.sl []), (.sl [])])] [] l1
  (∃ i2 : Int, ∃ i3 : Int, ∃ b4 : Bool, CallN Try.prog 10 [l1, (.con (.string ⟨#[83, 97, 121]⟩))] [] (.tup [i2, i3, b4])
  (∃ l5 : List (List PV), CallN Try.prog 21 [(.sl [[(.con (.int .i64 0)), (.con (.int .i64 0)), (.con (.string ⟨#[116]⟩)), (.sl [[(.con (.string ⟨#[65]⟩)), (.sl [[(.con (.int .i64 2)), (.con (.string ⟨#[116]⟩)), (.sl [])]])]])]])] [[.tip], [.tip], [.tip]] l5
  (br (((i2 : Int) == 1))
  (br (((i3 : Int) == 1))
  (br (b4)
  (br ((((List.length l5 : Int) : Int) == 1))
  (∃ b6 : Bool, IdxN l5 0 [b6]
  (Q (.con (.bool (!b6))) [[.tip], [.tip], [.tip]]))
  (Q (.con (.bool false)) [[.tip], [.tip], [.tip]]))
  (Q (.con (.bool false)) [[.tip], [.tip], [.tip]]))
  (Q (.con (.bool false)) [[.tip], [.tip], [.tip]]))
  (Q (.con (.bool false)) [[.tip], [.tip], [.tip]]))))
theorem a9  (Q : PV → Heap → Prop) (h : p9  Q) : ACalls Try.prog 9 [] [] Q := by
  have hb : Option.some (bodyOf Try.f9) = Try.f9.body := by kernel_rfl
  exact acalls_eq (S := S) (L := loops29) mixed tok Try.func9 hb.symm (by kernel_rfl) h
def loops6 (id : Nat) : Option (List Nat × List (Nat × Sh)) := match Nat.beq id 20 with | true => some ([2], [(1, .int .i64), (10, .int .i64)]) | false => match Nat.beq id 16 with | true => some ([2, 7, 8], [(1, .int .i64), (9, .int .i64)]) | false => match Nat.beq id 11 with | true => some ([2], [(1, .int .i64), (7, .int .i64)]) | false => match Nat.beq id 7 with | true => some ([2, 5], [(1, .int .i64), (6, .int .i64)]) | false => match Nat.beq id 3 with | true => some ([2], [(1, .int .i64), (5, .int .i64)]) | false => none
def p6 (l1 l2 : List (List PV)) (i3 i4 i5 : Int) (s6 : ByteArray) (l7 : List (List PV)) (i8 i9 i10 i11 i12 : Int) (l13 : List (List PV)) (s14 : ByteArray) (l15 l16 l17 : List (List PV)) (i18 : Int) (Q : PV → Heap → Prop) : Prop :=
∃ i19 : Int, CallN Try.prog 8 [(.agg [i5, s6, l7]), i18] [] i19
  (∃ i20 : Int, CallN Try.prog 22 [(.agg [i9, i10, i11, i12, l13, s14, l15, l16]), i19] [] i20
  (∃ I21 : Nat → ((Int) × (Int) × Unit) → Prop, (∃ n, I21 n (i20, 0, ())) ∧ ∀ (n22 : Nat) (v23 : (Int) × (Int) × Unit), I21 n22 v23 →
  (br ((decide ((v23.2.1 : Int) < (List.length l1 : Int))))
  (br ((decide ((v23.1 : Int) ≥ 0)))
  (∃ i24 : Int, ∃ i25 : Int, ∃ s26 : ByteArray, ∃ l27 : List (List PV), IdxN l1 v23.2.1 [i24, i25, s26, l27]
  (∃ I28 : Nat → ((Int) × (Int) × Unit) → Prop, (∃ n, I28 n ((IntKind.wrap .i64 ((IntKind.wrap .i64 (v23.1 - 1)) - (minI (ByteArray.size s26 : Int) 1048576))), 0, ())) ∧ ∀ (n29 : Nat) (v30 : (Int) × (Int) × Unit), I28 n29 v30 →
  (∃ i31 : Int, ∃ i32 : Int, ∃ s33 : ByteArray, ∃ l34 : List (List PV), IdxN l1 v23.2.1 [i31, i32, s33, l34]
  (br ((decide ((v30.2.1 : Int) < (List.length l34 : Int))))
  (br ((decide ((v30.1 : Int) ≥ 0)))
  (∃ i35 : Int, ∃ i36 : Int, ∃ s37 : ByteArray, ∃ l38 : List (List PV), IdxN l1 v23.2.1 [i35, i36, s37, l38]
  (∃ s39 : ByteArray, ∃ l40 : List (List PV), IdxN l38 v30.2.1 [s39, l40]
  (∃ i41 : Int, ∃ i42 : Int, ∃ s43 : ByteArray, ∃ l44 : List (List PV), IdxN l1 v23.2.1 [i41, i42, s43, l44]
  (∃ s45 : ByteArray, ∃ l46 : List (List PV), IdxN l44 v30.2.1 [s45, l46]
  (∃ i47 : Int, CallN Try.prog 8 [(.agg [(.con (.int .i64 0)), s39, l46]), v30.1] [] i47
  ((@Eq PV (.ptr 0 0) (.ptr 0 0) ∧ @Eq PV v23.2.1 v23.2.1 ∧ True) ∧ @Eq Heap [[l1, l2, i3, i4, i5, s6, l7, i8, i9, i10, i11, i12, l13, s14, l15, l16, l17]] [[l1, l2, i3, i4, i5, s6, l7, i8, i9, i10, i11, i12, l13, s14, l15, l16, l17]] ∧ ∃ k48, k48 < n29 ∧ I28 k48 (i47, (IntKind.wrap .i64 (v30.2.1 + 1)), ())))))))
  ((@Eq PV (.ptr 0 0) (.ptr 0 0) ∧ True) ∧ @Eq Heap [[l1, l2, i3, i4, i5, s6, l7, i8, i9, i10, i11, i12, l13, s14, l15, l16, l17]] [[l1, l2, i3, i4, i5, s6, l7, i8, i9, i10, i11, i12, l13, s14, l15, l16, l17]] ∧ ∃ k49, k49 < n22 ∧ I21 k49 (v30.1, (IntKind.wrap .i64 (v23.2.1 + 1)), ())))
  ((@Eq PV (.ptr 0 0) (.ptr 0 0) ∧ True) ∧ @Eq Heap [[l1, l2, i3, i4, i5, s6, l7, i8, i9, i10, i11, i12, l13, s14, l15, l16, l17]] [[l1, l2, i3, i4, i5, s6, l7, i8, i9, i10, i11, i12, l13, s14, l15, l16, l17]] ∧ ∃ k50, k50 < n22 ∧ I21 k50 (v30.1, (IntKind.wrap .i64 (v23.2.1 + 1)), ()))))))
  (∃ I51 : Nat → ((Int) × (Int) × Unit) → Prop, (∃ n, I51 n (v23.1, 0, ())) ∧ ∀ (n52 : Nat) (v53 : (Int) × (Int) × Unit), I51 n52 v53 →
  (br ((decide ((v53.2.1 : Int) < (List.length l2 : Int))))
  (br ((decide ((v53.1 : Int) ≥ 0)))
  (∃ i54 : Int, ∃ i55 : Int, ∃ s56 : ByteArray, ∃ l57 : List (List PV), ∃ i58 : Int, ∃ s59 : ByteArray, ∃ l60 : List (List PV), ∃ i61 : Int, ∃ i62 : Int, ∃ i63 : Int, ∃ i64 : Int, ∃ l65 : List (List PV), ∃ s66 : ByteArray, ∃ l67 : List (List PV), ∃ l68 : List (List PV), IdxN l2 v53.2.1 [i54, i55, s56, l57, i58, s59, l60, i61, i62, i63, i64, l65, s66, l67, l68]
  (∃ i69 : Int, CallN Try.prog 8 [(.agg [i58, s59, l60]), (IntKind.wrap .i64 ((IntKind.wrap .i64 (v53.1 - 1)) - (minI (ByteArray.size s56 : Int) 1048576)))] [] i69
  (∃ i70 : Int, CallN Try.prog 22 [(.agg [i61, i62, i63, i64, l65, s66, l67, l68]), i69] [] i70
  (∃ I71 : Nat → ((Int) × (Int) × Unit) → Prop, (∃ n, I71 n (i70, 0, ())) ∧ ∀ (n72 : Nat) (v73 : (Int) × (Int) × Unit), I71 n72 v73 →
  (br ((decide ((v73.2.1 : Int) < (List.length l57 : Int))))
  (br ((decide ((v73.1 : Int) ≥ 0)))
  (∃ s74 : ByteArray, ∃ i75 : Int, ∃ s76 : ByteArray, ∃ l77 : List (List PV), IdxN l57 v73.2.1 [s74, i75, s76, l77]
  (∃ s78 : ByteArray, ∃ i79 : Int, ∃ s80 : ByteArray, ∃ l81 : List (List PV), IdxN l57 v73.2.1 [s78, i79, s80, l81]
  (∃ i82 : Int, CallN Try.prog 8 [(.agg [i75, s76, l77]), (IntKind.wrap .i64 (v73.1 - (minI (ByteArray.size s78 : Int) 1048576)))] [] i82
  ((@Eq PV (.ptr 0 0) (.ptr 0 0) ∧ @Eq PV v53.2.1 v53.2.1 ∧ @Eq PV (.ptr 1 0) (.ptr 1 0) ∧ True) ∧ @Eq Heap [[l1, l2, i3, i4, i5, s6, l7, i8, i9, i10, i11, i12, l13, s14, l15, l16, l17], [i54, i55, s56, l57, i58, s59, l60, i61, i62, i63, i64, l65, s66, l67, l68]] [[l1, l2, i3, i4, i5, s6, l7, i8, i9, i10, i11, i12, l13, s14, l15, l16, l17], [i54, i55, s56, l57, i58, s59, l60, i61, i62, i63, i64, l65, s66, l67, l68]] ∧ ∃ k83, k83 < n72 ∧ I71 k83 (i82, (IntKind.wrap .i64 (v73.2.1 + 1)), ())))))
  ((@Eq PV (.ptr 0 0) (.ptr 0 0) ∧ True) ∧ @Eq Heap [[l1, l2, i3, i4, i5, s6, l7, i8, i9, i10, i11, i12, l13, s14, l15, l16, l17]] [[l1, l2, i3, i4, i5, s6, l7, i8, i9, i10, i11, i12, l13, s14, l15, l16, l17]] ∧ ∃ k84, k84 < n52 ∧ I51 k84 (v73.1, (IntKind.wrap .i64 (v53.2.1 + 1)), ())))
  ((@Eq PV (.ptr 0 0) (.ptr 0 0) ∧ True) ∧ @Eq Heap [[l1, l2, i3, i4, i5, s6, l7, i8, i9, i10, i11, i12, l13, s14, l15, l16, l17]] [[l1, l2, i3, i4, i5, s6, l7, i8, i9, i10, i11, i12, l13, s14, l15, l16, l17]] ∧ ∃ k85, k85 < n52 ∧ I51 k85 (v73.1, (IntKind.wrap .i64 (v53.2.1 + 1)), ())))))))
  (∃ I86 : Nat → ((Int) × (Int) × Unit) → Prop, (∃ n, I86 n (v53.1, 0, ())) ∧ ∀ (n87 : Nat) (v88 : (Int) × (Int) × Unit), I86 n87 v88 →
  (br ((decide ((v88.2.1 : Int) < (List.length l17 : Int))))
  (br ((decide ((v88.1 : Int) ≥ 0)))
  (∃ i89 : Int, ∃ i90 : Int, ∃ s91 : ByteArray, ∃ s92 : ByteArray, ∃ i93 : Int, ∃ s94 : ByteArray, ∃ l95 : List (List PV), ∃ i96 : Int, ∃ i97 : Int, ∃ i98 : Int, ∃ i99 : Int, ∃ i100 : Int, ∃ l101 : List (List PV), ∃ s102 : ByteArray, ∃ l103 : List (List PV), ∃ l104 : List (List PV), IdxN l17 v88.2.1 [i89, i90, s91, s92, i93, s94, l95, i96, i97, i98, i99, i100, l101, s102, l103, l104]
  (∃ i105 : Int, CallN Try.prog 8 [(.agg [i93, s94, l95]), (IntKind.wrap .i64 ((IntKind.wrap .i64 ((IntKind.wrap .i64 (v88.1 - 1)) - (minI (ByteArray.size s91 : Int) 1048576))) - (minI (ByteArray.size s92 : Int) 1048576)))] [] i105
  (∃ i106 : Int, CallN Try.prog 22 [(.agg [i97, i98, i99, i100, l101, s102, l103, l104]), i105] [] i106
  ((@Eq PV (.ptr 0 0) (.ptr 0 0) ∧ True) ∧ @Eq Heap [[l1, l2, i3, i4, i5, s6, l7, i8, i9, i10, i11, i12, l13, s14, l15, l16, l17]] [[l1, l2, i3, i4, i5, s6, l7, i8, i9, i10, i11, i12, l13, s14, l15, l16, l17]] ∧ ∃ k107, k107 < n87 ∧ I86 k107 (i106, (IntKind.wrap .i64 (v88.2.1 + 1)), ())))))
  (Q v88.1 [[l1, l2, i3, i4, i5, s6, l7, i8, i9, i10, i11, i12, l13, s14, l15, l16, l17]]))
  (Q v88.1 [[l1, l2, i3, i4, i5, s6, l7, i8, i9, i10, i11, i12, l13, s14, l15, l16, l17]]))))
  (∃ I108 : Nat → ((Int) × (Int) × Unit) → Prop, (∃ n, I108 n (v53.1, 0, ())) ∧ ∀ (n109 : Nat) (v110 : (Int) × (Int) × Unit), I108 n109 v110 →
  (br ((decide ((v110.2.1 : Int) < (List.length l17 : Int))))
  (br ((decide ((v110.1 : Int) ≥ 0)))
  (∃ i111 : Int, ∃ i112 : Int, ∃ s113 : ByteArray, ∃ s114 : ByteArray, ∃ i115 : Int, ∃ s116 : ByteArray, ∃ l117 : List (List PV), ∃ i118 : Int, ∃ i119 : Int, ∃ i120 : Int, ∃ i121 : Int, ∃ i122 : Int, ∃ l123 : List (List PV), ∃ s124 : ByteArray, ∃ l125 : List (List PV), ∃ l126 : List (List PV), IdxN l17 v110.2.1 [i111, i112, s113, s114, i115, s116, l117, i118, i119, i120, i121, i122, l123, s124, l125, l126]
  (∃ i127 : Int, CallN Try.prog 8 [(.agg [i115, s116, l117]), (IntKind.wrap .i64 ((IntKind.wrap .i64 ((IntKind.wrap .i64 (v110.1 - 1)) - (minI (ByteArray.size s113 : Int) 1048576))) - (minI (ByteArray.size s114 : Int) 1048576)))] [] i127
  (∃ i128 : Int, CallN Try.prog 22 [(.agg [i119, i120, i121, i122, l123, s124, l125, l126]), i127] [] i128
  ((@Eq PV (.ptr 0 0) (.ptr 0 0) ∧ True) ∧ @Eq Heap [[l1, l2, i3, i4, i5, s6, l7, i8, i9, i10, i11, i12, l13, s14, l15, l16, l17]] [[l1, l2, i3, i4, i5, s6, l7, i8, i9, i10, i11, i12, l13, s14, l15, l16, l17]] ∧ ∃ k129, k129 < n109 ∧ I108 k129 (i128, (IntKind.wrap .i64 (v110.2.1 + 1)), ())))))
  (Q v110.1 [[l1, l2, i3, i4, i5, s6, l7, i8, i9, i10, i11, i12, l13, s14, l15, l16, l17]]))
  (Q v110.1 [[l1, l2, i3, i4, i5, s6, l7, i8, i9, i10, i11, i12, l13, s14, l15, l16, l17]]))))))
  (∃ I130 : Nat → ((Int) × (Int) × Unit) → Prop, (∃ n, I130 n (v23.1, 0, ())) ∧ ∀ (n131 : Nat) (v132 : (Int) × (Int) × Unit), I130 n131 v132 →
  (br ((decide ((v132.2.1 : Int) < (List.length l2 : Int))))
  (br ((decide ((v132.1 : Int) ≥ 0)))
  (∃ i133 : Int, ∃ i134 : Int, ∃ s135 : ByteArray, ∃ l136 : List (List PV), ∃ i137 : Int, ∃ s138 : ByteArray, ∃ l139 : List (List PV), ∃ i140 : Int, ∃ i141 : Int, ∃ i142 : Int, ∃ i143 : Int, ∃ l144 : List (List PV), ∃ s145 : ByteArray, ∃ l146 : List (List PV), ∃ l147 : List (List PV), IdxN l2 v132.2.1 [i133, i134, s135, l136, i137, s138, l139, i140, i141, i142, i143, l144, s145, l146, l147]
  (∃ i148 : Int, CallN Try.prog 8 [(.agg [i137, s138, l139]), (IntKind.wrap .i64 ((IntKind.wrap .i64 (v132.1 - 1)) - (minI (ByteArray.size s135 : Int) 1048576)))] [] i148
  (∃ i149 : Int, CallN Try.prog 22 [(.agg [i140, i141, i142, i143, l144, s145, l146, l147]), i148] [] i149
  (∃ I150 : Nat → ((Int) × (Int) × Unit) → Prop, (∃ n, I150 n (i149, 0, ())) ∧ ∀ (n151 : Nat) (v152 : (Int) × (Int) × Unit), I150 n151 v152 →
  (br ((decide ((v152.2.1 : Int) < (List.length l136 : Int))))
  (br ((decide ((v152.1 : Int) ≥ 0)))
  (∃ s153 : ByteArray, ∃ i154 : Int, ∃ s155 : ByteArray, ∃ l156 : List (List PV), IdxN l136 v152.2.1 [s153, i154, s155, l156]
  (∃ s157 : ByteArray, ∃ i158 : Int, ∃ s159 : ByteArray, ∃ l160 : List (List PV), IdxN l136 v152.2.1 [s157, i158, s159, l160]
  (∃ i161 : Int, CallN Try.prog 8 [(.agg [i154, s155, l156]), (IntKind.wrap .i64 (v152.1 - (minI (ByteArray.size s157 : Int) 1048576)))] [] i161
  ((@Eq PV (.ptr 0 0) (.ptr 0 0) ∧ @Eq PV v132.2.1 v132.2.1 ∧ @Eq PV (.ptr 1 0) (.ptr 1 0) ∧ True) ∧ @Eq Heap [[l1, l2, i3, i4, i5, s6, l7, i8, i9, i10, i11, i12, l13, s14, l15, l16, l17], [i133, i134, s135, l136, i137, s138, l139, i140, i141, i142, i143, l144, s145, l146, l147]] [[l1, l2, i3, i4, i5, s6, l7, i8, i9, i10, i11, i12, l13, s14, l15, l16, l17], [i133, i134, s135, l136, i137, s138, l139, i140, i141, i142, i143, l144, s145, l146, l147]] ∧ ∃ k162, k162 < n151 ∧ I150 k162 (i161, (IntKind.wrap .i64 (v152.2.1 + 1)), ())))))
  ((@Eq PV (.ptr 0 0) (.ptr 0 0) ∧ True) ∧ @Eq Heap [[l1, l2, i3, i4, i5, s6, l7, i8, i9, i10, i11, i12, l13, s14, l15, l16, l17]] [[l1, l2, i3, i4, i5, s6, l7, i8, i9, i10, i11, i12, l13, s14, l15, l16, l17]] ∧ ∃ k163, k163 < n131 ∧ I130 k163 (v152.1, (IntKind.wrap .i64 (v132.2.1 + 1)), ())))
  ((@Eq PV (.ptr 0 0) (.ptr 0 0) ∧ True) ∧ @Eq Heap [[l1, l2, i3, i4, i5, s6, l7, i8, i9, i10, i11, i12, l13, s14, l15, l16, l17]] [[l1, l2, i3, i4, i5, s6, l7, i8, i9, i10, i11, i12, l13, s14, l15, l16, l17]] ∧ ∃ k164, k164 < n131 ∧ I130 k164 (v152.1, (IntKind.wrap .i64 (v132.2.1 + 1)), ())))))))
  (∃ I165 : Nat → ((Int) × (Int) × Unit) → Prop, (∃ n, I165 n (v132.1, 0, ())) ∧ ∀ (n166 : Nat) (v167 : (Int) × (Int) × Unit), I165 n166 v167 →
  (br ((decide ((v167.2.1 : Int) < (List.length l17 : Int))))
  (br ((decide ((v167.1 : Int) ≥ 0)))
  (∃ i168 : Int, ∃ i169 : Int, ∃ s170 : ByteArray, ∃ s171 : ByteArray, ∃ i172 : Int, ∃ s173 : ByteArray, ∃ l174 : List (List PV), ∃ i175 : Int, ∃ i176 : Int, ∃ i177 : Int, ∃ i178 : Int, ∃ i179 : Int, ∃ l180 : List (List PV), ∃ s181 : ByteArray, ∃ l182 : List (List PV), ∃ l183 : List (List PV), IdxN l17 v167.2.1 [i168, i169, s170, s171, i172, s173, l174, i175, i176, i177, i178, i179, l180, s181, l182, l183]
  (∃ i184 : Int, CallN Try.prog 8 [(.agg [i172, s173, l174]), (IntKind.wrap .i64 ((IntKind.wrap .i64 ((IntKind.wrap .i64 (v167.1 - 1)) - (minI (ByteArray.size s170 : Int) 1048576))) - (minI (ByteArray.size s171 : Int) 1048576)))] [] i184
  (∃ i185 : Int, CallN Try.prog 22 [(.agg [i176, i177, i178, i179, l180, s181, l182, l183]), i184] [] i185
  ((@Eq PV (.ptr 0 0) (.ptr 0 0) ∧ True) ∧ @Eq Heap [[l1, l2, i3, i4, i5, s6, l7, i8, i9, i10, i11, i12, l13, s14, l15, l16, l17]] [[l1, l2, i3, i4, i5, s6, l7, i8, i9, i10, i11, i12, l13, s14, l15, l16, l17]] ∧ ∃ k186, k186 < n166 ∧ I165 k186 (i185, (IntKind.wrap .i64 (v167.2.1 + 1)), ())))))
  (Q v167.1 [[l1, l2, i3, i4, i5, s6, l7, i8, i9, i10, i11, i12, l13, s14, l15, l16, l17]]))
  (Q v167.1 [[l1, l2, i3, i4, i5, s6, l7, i8, i9, i10, i11, i12, l13, s14, l15, l16, l17]]))))
  (∃ I187 : Nat → ((Int) × (Int) × Unit) → Prop, (∃ n, I187 n (v132.1, 0, ())) ∧ ∀ (n188 : Nat) (v189 : (Int) × (Int) × Unit), I187 n188 v189 →
  (br ((decide ((v189.2.1 : Int) < (List.length l17 : Int))))
  (br ((decide ((v189.1 : Int) ≥ 0)))
  (∃ i190 : Int, ∃ i191 : Int, ∃ s192 : ByteArray, ∃ s193 : ByteArray, ∃ i194 : Int, ∃ s195 : ByteArray, ∃ l196 : List (List PV), ∃ i197 : Int, ∃ i198 : Int, ∃ i199 : Int, ∃ i200 : Int, ∃ i201 : Int, ∃ l202 : List (List PV), ∃ s203 : ByteArray, ∃ l204 : List (List PV), ∃ l205 : List (List PV), IdxN l17 v189.2.1 [i190, i191, s192, s193, i194, s195, l196, i197, i198, i199, i200, i201, l202, s203, l204, l205]
  (∃ i206 : Int, CallN Try.prog 8 [(.agg [i194, s195, l196]), (IntKind.wrap .i64 ((IntKind.wrap .i64 ((IntKind.wrap .i64 (v189.1 - 1)) - (minI (ByteArray.size s192 : Int) 1048576))) - (minI (ByteArray.size s193 : Int) 1048576)))] [] i206
  (∃ i207 : Int, CallN Try.prog 22 [(.agg [i198, i199, i200, i201, l202, s203, l204, l205]), i206] [] i207
  ((@Eq PV (.ptr 0 0) (.ptr 0 0) ∧ True) ∧ @Eq Heap [[l1, l2, i3, i4, i5, s6, l7, i8, i9, i10, i11, i12, l13, s14, l15, l16, l17]] [[l1, l2, i3, i4, i5, s6, l7, i8, i9, i10, i11, i12, l13, s14, l15, l16, l17]] ∧ ∃ k208, k208 < n188 ∧ I187 k208 (i207, (IntKind.wrap .i64 (v189.2.1 + 1)), ())))))
  (Q v189.1 [[l1, l2, i3, i4, i5, s6, l7, i8, i9, i10, i11, i12, l13, s14, l15, l16, l17]]))
  (Q v189.1 [[l1, l2, i3, i4, i5, s6, l7, i8, i9, i10, i11, i12, l13, s14, l15, l16, l17]]))))))))
theorem a6 (l1 l2 : List (List PV)) (i3 i4 i5 : Int) (s6 : ByteArray) (l7 : List (List PV)) (i8 i9 i10 i11 i12 : Int) (l13 : List (List PV)) (s14 : ByteArray) (l15 l16 l17 : List (List PV)) (i18 : Int) (Q : PV → Heap → Prop) (h : p6 l1 l2 i3 i4 i5 s6 l7 i8 i9 i10 i11 i12 l13 s14 l15 l16 l17 i18 Q) : ACalls Try.prog 6 [(.agg [l1, l2, i3, i4, i5, s6, l7, i8, i9, i10, i11, i12, l13, s14, l15, l16, l17]), i18] [] Q := by
  have hb : Option.some (bodyOf Try.f6) = Try.f6.body := by kernel_rfl
  exact acalls_eq (S := S) (L := loops6) mixed tok Try.func6 hb.symm (by kernel_rfl) h
def loops22 (id : Nat) : Option (List Nat × List (Nat × Sh)) := match Nat.beq id 7 with | true => some ([2], [(1, .int .i64), (6, .int .i64)]) | false => match Nat.beq id 3 with | true => some ([2], [(1, .int .i64), (5, .int .i64)]) | false => none
def p22 (i1 i2 i3 i4 : Int) (l5 : List (List PV)) (s6 : ByteArray) (l7 l8 : List (List PV)) (i9 : Int) (Q : PV → Heap → Prop) : Prop :=
∃ I10 : Nat → ((Int) × (Int) × Unit) → Prop, (∃ n, I10 n ((IntKind.wrap .i64 ((IntKind.wrap .i64 ((IntKind.wrap .i64 (i9 - 1)) - (minI (List.length l5 : Int) 1048576))) - (minI (ByteArray.size s6 : Int) 1048576))), 0, ())) ∧ ∀ (n11 : Nat) (v12 : (Int) × (Int) × Unit), I10 n11 v12 →
  (br ((decide ((v12.2.1 : Int) < (List.length l7 : Int))))
  (br ((decide ((v12.1 : Int) ≥ 0)))
  (∃ i13 : Int, ∃ i14 : Int, ∃ i15 : Int, ∃ i16 : Int, ∃ l17 : List (List PV), ∃ s18 : ByteArray, ∃ l19 : List (List PV), ∃ l20 : List (List PV), IdxN l7 v12.2.1 [i13, i14, i15, i16, l17, s18, l19, l20]
  (∃ i21 : Int, CallN Try.prog 22 [(.agg [i13, i14, i15, i16, l17, s18, l19, l20]), v12.1] [[i1, i2, i3, i4, l5, s6, l7, l8]] i21
  ((@Eq PV (.ptr 0 0) (.ptr 0 0) ∧ True) ∧ @Eq Heap [[i1, i2, i3, i4, l5, s6, l7, l8]] [[i1, i2, i3, i4, l5, s6, l7, l8]] ∧ ∃ k22, k22 < n11 ∧ I10 k22 (i21, (IntKind.wrap .i64 (v12.2.1 + 1)), ()))))
  (∃ I23 : Nat → ((Int) × (Int) × Unit) → Prop, (∃ n, I23 n (v12.1, 0, ())) ∧ ∀ (n24 : Nat) (v25 : (Int) × (Int) × Unit), I23 n24 v25 →
  (br ((decide ((v25.2.1 : Int) < (List.length l8 : Int))))
  (br ((decide ((v25.1 : Int) ≥ 0)))
  (∃ i26 : Int, ∃ i27 : Int, ∃ i28 : Int, ∃ s29 : ByteArray, ∃ i30 : Int, ∃ l31 : List (List PV), ∃ i32 : Int, ∃ i33 : Int, ∃ i34 : Int, ∃ i35 : Int, ∃ l36 : List (List PV), ∃ s37 : ByteArray, ∃ l38 : List (List PV), ∃ l39 : List (List PV), IdxN l8 v25.2.1 [i26, i27, i28, s29, i30, l31, i32, i33, i34, i35, l36, s37, l38, l39]
  (∃ i40 : Int, ∃ i41 : Int, ∃ i42 : Int, ∃ s43 : ByteArray, ∃ i44 : Int, ∃ l45 : List (List PV), ∃ i46 : Int, ∃ i47 : Int, ∃ i48 : Int, ∃ i49 : Int, ∃ l50 : List (List PV), ∃ s51 : ByteArray, ∃ l52 : List (List PV), ∃ l53 : List (List PV), IdxN l8 v25.2.1 [i40, i41, i42, s43, i44, l45, i46, i47, i48, i49, l50, s51, l52, l53]
  (∃ i54 : Int, CallN Try.prog 38 [(.agg [i40, i41, i42, s43, i44, l45]), v25.1] [] i54
  (∃ i55 : Int, CallN Try.prog 22 [(.agg [i32, i33, i34, i35, l36, s37, l38, l39]), i54] [] i55
  ((@Eq PV (.ptr 0 0) (.ptr 0 0) ∧ True) ∧ @Eq Heap [[i1, i2, i3, i4, l5, s6, l7, l8]] [[i1, i2, i3, i4, l5, s6, l7, l8]] ∧ ∃ k56, k56 < n24 ∧ I23 k56 (i55, (IntKind.wrap .i64 (v25.2.1 + 1)), ()))))))
  (Q v25.1 [[i1, i2, i3, i4, l5, s6, l7, l8]]))
  (Q v25.1 [[i1, i2, i3, i4, l5, s6, l7, l8]]))))
  (∃ I57 : Nat → ((Int) × (Int) × Unit) → Prop, (∃ n, I57 n (v12.1, 0, ())) ∧ ∀ (n58 : Nat) (v59 : (Int) × (Int) × Unit), I57 n58 v59 →
  (br ((decide ((v59.2.1 : Int) < (List.length l8 : Int))))
  (br ((decide ((v59.1 : Int) ≥ 0)))
  (∃ i60 : Int, ∃ i61 : Int, ∃ i62 : Int, ∃ s63 : ByteArray, ∃ i64 : Int, ∃ l65 : List (List PV), ∃ i66 : Int, ∃ i67 : Int, ∃ i68 : Int, ∃ i69 : Int, ∃ l70 : List (List PV), ∃ s71 : ByteArray, ∃ l72 : List (List PV), ∃ l73 : List (List PV), IdxN l8 v59.2.1 [i60, i61, i62, s63, i64, l65, i66, i67, i68, i69, l70, s71, l72, l73]
  (∃ i74 : Int, ∃ i75 : Int, ∃ i76 : Int, ∃ s77 : ByteArray, ∃ i78 : Int, ∃ l79 : List (List PV), ∃ i80 : Int, ∃ i81 : Int, ∃ i82 : Int, ∃ i83 : Int, ∃ l84 : List (List PV), ∃ s85 : ByteArray, ∃ l86 : List (List PV), ∃ l87 : List (List PV), IdxN l8 v59.2.1 [i74, i75, i76, s77, i78, l79, i80, i81, i82, i83, l84, s85, l86, l87]
  (∃ i88 : Int, CallN Try.prog 38 [(.agg [i74, i75, i76, s77, i78, l79]), v59.1] [] i88
  (∃ i89 : Int, CallN Try.prog 22 [(.agg [i66, i67, i68, i69, l70, s71, l72, l73]), i88] [] i89
  ((@Eq PV (.ptr 0 0) (.ptr 0 0) ∧ True) ∧ @Eq Heap [[i1, i2, i3, i4, l5, s6, l7, l8]] [[i1, i2, i3, i4, l5, s6, l7, l8]] ∧ ∃ k90, k90 < n58 ∧ I57 k90 (i89, (IntKind.wrap .i64 (v59.2.1 + 1)), ()))))))
  (Q v59.1 [[i1, i2, i3, i4, l5, s6, l7, l8]]))
  (Q v59.1 [[i1, i2, i3, i4, l5, s6, l7, l8]]))))
theorem a22 (i1 i2 i3 i4 : Int) (l5 : List (List PV)) (s6 : ByteArray) (l7 l8 : List (List PV)) (i9 : Int) (Q : PV → Heap → Prop) (h : p22 i1 i2 i3 i4 l5 s6 l7 l8 i9 Q) : ACalls Try.prog 22 [(.agg [i1, i2, i3, i4, l5, s6, l7, l8]), i9] [] Q := by
  have hb : Option.some (bodyOf Try.f22) = Try.f22.body := by kernel_rfl
  exact acalls_eq (S := S) (L := loops22) mixed tok Try.func22 hb.symm (by kernel_rfl) h
def loops38 (id : Nat) : Option (List Nat × List (Nat × Sh)) := match Nat.beq id 3 with | true => some ([2], [(1, .int .i64), (5, .int .i64)]) | false => none
def p38 (i1 i2 i3 : Int) (s4 : ByteArray) (i5 : Int) (l6 : List (List PV)) (i7 : Int) (Q : PV → Heap → Prop) : Prop :=
∃ I8 : Nat → ((Int) × (Int) × Unit) → Prop, (∃ n, I8 n ((IntKind.wrap .i64 ((IntKind.wrap .i64 (i7 - 1)) - (minI (ByteArray.size s4 : Int) 1048576))), 0, ())) ∧ ∀ (n9 : Nat) (v10 : (Int) × (Int) × Unit), I8 n9 v10 →
  (br ((decide ((v10.2.1 : Int) < (List.length l6 : Int))))
  (br ((decide ((v10.1 : Int) ≥ 0)))
  (∃ i11 : Int, ∃ i12 : Int, ∃ i13 : Int, ∃ s14 : ByteArray, ∃ i15 : Int, ∃ l16 : List (List PV), IdxN l6 v10.2.1 [i11, i12, i13, s14, i15, l16]
  (∃ i17 : Int, CallN Try.prog 38 [(.agg [i11, i12, i13, s14, i15, l16]), v10.1] [[i1, i2, i3, s4, i5, l6]] i17
  ((@Eq PV (.ptr 0 0) (.ptr 0 0) ∧ True) ∧ @Eq Heap [[i1, i2, i3, s4, i5, l6]] [[i1, i2, i3, s4, i5, l6]] ∧ ∃ k18, k18 < n9 ∧ I8 k18 (i17, (IntKind.wrap .i64 (v10.2.1 + 1)), ()))))
  (Q v10.1 [[i1, i2, i3, s4, i5, l6]]))
  (Q v10.1 [[i1, i2, i3, s4, i5, l6]]))
theorem a38 (i1 i2 i3 : Int) (s4 : ByteArray) (i5 : Int) (l6 : List (List PV)) (i7 : Int) (Q : PV → Heap → Prop) (h : p38 i1 i2 i3 s4 i5 l6 i7 Q) : ACalls Try.prog 38 [(.agg [i1, i2, i3, s4, i5, l6]), i7] [] Q := by
  have hb : Option.some (bodyOf Try.f38) = Try.f38.body := by kernel_rfl
  exact acalls_eq (S := S) (L := loops38) mixed tok Try.func38 hb.symm (by kernel_rfl) h
end Go.Proofs.Ytgkagelejoknmaa.Deep

namespace Go.Proofs.Ytgkagelejoknmaa.Deep
open Go.RowKit
set_option linter.unusedVariables false
set_option linter.unusedSimpArgs false
theorem min_take (n : Nat) : minI (n : Int) 1048576 = take20 n := by unfold minI take20; split <;> split <;> omega
theorem light_ty (t : Ty) : ∀ l : Int, -1099511627776 ≤ l → l ≤ 3000 → PCalls Try.prog 8 [.agg (tyP t), .con (.int .i64 l)] (fun r => r = .con (.int .i64 (lightTy t l))) := by
  induction t using Ty.ind with
  | h k n ps ih =>
  intro l h0 h1
  have hn := take20_le n.size
  refine a8 _ _ _ _ _ ?_
  unfold p8
  rw [min_take, wrap_id (n := l - 1) (by omega) (by omega), wrap_id (by omega) (by omega)]
  obtain ⟨L, hL⟩ : ∃ L, lightTy (.mk k n ps) l = L := ⟨_, rfl⟩
  rw [hL]
  unfold lightTy at hL
  rw [tyPs_len]
  refine ⟨fun c v => ∃ j : Nat, j ≤ ps.length ∧ c = ps.length - j ∧ v.2.1 = (j : Int) ∧ lightTys (ps.drop j) v.1 = L ∧ -1099513627776 ≤ v.1 ∧ v.1 + j ≤ 3000, ⟨_, 0, Nat.zero_le _, rfl, rfl, by simpa using hL, by dsimp only; omega, by dsimp only; omega⟩, ?_⟩
  rintro c ⟨cur, i, u⟩ ⟨j, hj, rfl, hi, hLj, b0, b1⟩
  dsimp only at hi hLj b0 b1 ⊢
  subst hi
  refine br_i (fun hlt => ?_) (fun hge => ?_)
  · have hlt : j < ps.length := by simpa using hlt
    rw [List.drop_eq_getElem_cons hlt, lightTys] at hLj
    refine br_i (fun hc => ?_) (fun hc => ?_)
    · have hc : 0 ≤ cur := by simpa using hc
      rw [if_neg (by omega)] at hLj
      have hx := tyPs_get ps j hlt
      obtain ⟨a1, a2, a3, a4⟩ := lightTy_ok ps[j] cur
      have hi := ih j hlt cur (by omega) (by omega)
      obtain ⟨k', n', ps', hp⟩ : ∃ k' n' ps', ps[j] = .mk k' n' ps' := by cases ps[j]; exact ⟨_, _, _, rfl⟩
      rw [hp] at hx hi hLj a1 a2
      refine ⟨_, _, _, ⟨by omega, by rw [Int.toNat_natCast]; exact hx, ?_⟩⟩
      refine ⟨_, call_p (enters_of Try.func8 (by kernel_rfl) rfl) hi rfl ⟨⟨rfl, trivial⟩, rfl, ps.length - (j + 1), by omega, j + 1, by omega, rfl, ?_, hLj, ?_, ?_⟩⟩
      · rw [wrap_id (by omega) (by omega)]; simp
      · have := a2 hc; omega
      · omega
    · have hc : cur < 0 := by have : ¬ 0 ≤ cur := by simpa using hc
                              omega
      rw [if_pos hc] at hLj
      exact ⟨by rw [← hLj], rfl⟩
  · have hge : ¬ j < ps.length := by simpa using hge
    rw [List.drop_of_length_le (by omega), lightTys] at hLj
    exact ⟨by rw [← hLj], rfl⟩
theorem light_pt (t : Pt) : ∀ l : Int, -1099511627776 ≤ l → l ≤ 3000 → PCalls Try.prog 38 [.agg (ptP t), .con (.int .i64 l)] (fun r => r = .con (.int .i64 (lightPt t l))) := by
  induction t using Pt.ind with
  | h k li co n m ps ih =>
  intro l h0 h1
  have hn := take20_le n.size
  refine a38 _ _ _ _ _ _ _ _ ?_
  unfold p38
  rw [min_take, wrap_id (n := l - 1) (by omega) (by omega), wrap_id (by omega) (by omega)]
  obtain ⟨L, hL⟩ : ∃ L, lightPt (.mk k li co n m ps) l = L := ⟨_, rfl⟩
  rw [hL]
  unfold lightPt at hL
  rw [ptPs_len]
  refine ⟨fun c v => ∃ j : Nat, j ≤ ps.length ∧ c = ps.length - j ∧ v.2.1 = (j : Int) ∧ lightPts (ps.drop j) v.1 = L ∧ -1099513627776 ≤ v.1 ∧ v.1 + j ≤ 3000, ⟨_, 0, Nat.zero_le _, rfl, rfl, by simpa using hL, by dsimp only; omega, by dsimp only; omega⟩, ?_⟩
  rintro c ⟨cur, i, u⟩ ⟨j, hj, rfl, hi, hLj, b0, b1⟩
  dsimp only at hi hLj b0 b1 ⊢
  subst hi
  refine br_i (fun hlt => ?_) (fun hge => ?_)
  · have hlt : j < ps.length := by simpa using hlt
    rw [List.drop_eq_getElem_cons hlt, lightPts] at hLj
    refine br_i (fun hc => ?_) (fun hc => ?_)
    · have hc : 0 ≤ cur := by simpa using hc
      rw [if_neg (by omega)] at hLj
      have hx := ptPs_get ps j hlt
      obtain ⟨a1, a2, a3, a4⟩ := lightPt_ok ps[j] cur
      have hi := ih j hlt cur (by omega) (by omega)
      obtain ⟨k', li', co', n', m', ps', hp⟩ : ∃ k' li' co' n' m' ps', ps[j] = .mk k' li' co' n' m' ps' := by cases ps[j]; exact ⟨_, _, _, _, _, _, rfl⟩
      rw [hp] at hx hi hLj a1 a2
      refine ⟨_, _, _, _, _, _, ⟨by omega, by rw [Int.toNat_natCast]; exact hx, ?_⟩⟩
      refine ⟨_, call_p (enters_of Try.func38 (by kernel_rfl) rfl) hi rfl ⟨⟨rfl, trivial⟩, rfl, ps.length - (j + 1), by omega, j + 1, by omega, rfl, ?_, hLj, ?_, ?_⟩⟩
      · rw [wrap_id (by omega) (by omega)]; simp
      · have := a2 hc; omega
      · omega
    · have hc : cur < 0 := by have : ¬ 0 ≤ cur := by simpa using hc
                              omega
      rw [if_pos hc] at hLj
      exact ⟨by rw [← hLj], rfl⟩
  · have hge : ¬ j < ps.length := by simpa using hge
    rw [List.drop_of_length_le (by omega), lightPts] at hLj
    exact ⟨by rw [← hLj], rfl⟩
theorem wfExs_at : ∀ (ks : List Ex), wfExs ks → ∀ i (h : i < ks.length), wfEx ks[i]
  | t :: ts, hs, 0, _ => by unfold wfExs at hs; exact hs.1
  | t :: ts, hs, i + 1, h => by unfold wfExs at hs; simpa using wfExs_at ts hs.2 i (by simpa using h)
theorem light_ex (t : Ex) : wfEx t → ∀ l : Int, -1099511627776 ≤ l → l ≤ 3000 → PCalls Try.prog 22 [.agg (exP t), .con (.int .i64 l)] (fun r => r = .con (.int .i64 (lightEx t l))) := by
  induction t using Ex.ind with
  | h k li co m b n ks ps bs ihk ihb =>
  intro hw l h0 h1
  have hn := take20_le n.size
  have hbb := take20_le b.length
  unfold wfEx at hw
  obtain ⟨hpb, hwk, hwb⟩ := hw
  refine a22 _ _ _ _ _ _ _ _ _ _ ?_
  unfold p22
  rw [min_take, show (byP b).length = b.length by simp [byP], min_take, wrap_id (n := l - 1) (by omega) (by omega), wrap_id (n := l - 1 - take20 b.length) (by omega) (by omega), wrap_id (by omega) (by omega)]
  obtain ⟨L, hL⟩ : ∃ L, lightEx (.mk k li co m b n ks ps bs) l = L := ⟨_, rfl⟩
  rw [hL]
  unfold lightEx at hL
  rw [exPs_len, arPs_len bs ps hpb]
  refine ⟨fun c v => ∃ j : Nat, j ≤ ks.length ∧ c = ks.length - j ∧ v.2.1 = (j : Int) ∧ lightArms bs ps (lightExs (ks.drop j) v.1) = L ∧ -1099513727776 ≤ v.1 ∧ v.1 + j ≤ 3000, ⟨_, 0, Nat.zero_le _, rfl, rfl, by simpa using hL, by dsimp only; omega, by dsimp only; omega⟩, ?_⟩
  rintro c ⟨cur, i, u⟩ ⟨j, hj, rfl, hi, hLj, b0, b1⟩
  dsimp only at hi hLj b0 b1 ⊢
  subst hi
  by_cases hgo : j < ks.length ∧ 0 ≤ cur
  · obtain ⟨hlt, hc⟩ := hgo
    rw [List.drop_eq_getElem_cons hlt, lightExs, if_neg (by omega)] at hLj
    have hx := exPs_get ks j hlt
    obtain ⟨a1, a2, a3, a4⟩ := lightEx_ok ks[j] cur
    have hi := ihk j hlt (wfExs_at ks hwk j hlt) cur (by omega) (by omega)
    obtain ⟨k', li', co', m', b', n', ks', ps', bs', hp⟩ : ∃ k' li' co' m' b' n' ks' ps' bs', ks[j] = .mk k' li' co' m' b' n' ks' ps' bs' := by cases ks[j]; exact ⟨_, _, _, _, _, _, _, _, _, rfl⟩
    rw [hp] at hx hi hLj a1 a2
    refine br_i (fun _ => br_i (fun _ => ?_) (fun hf => absurd hc (by simpa using hf))) (fun hf => absurd hlt (by simpa using hf))
    refine ⟨_, _, _, _, _, _, _, _, ⟨by omega, by rw [Int.toNat_natCast]; exact hx, ?_⟩⟩
    refine ⟨_, call_p (enters_of Try.func22 (by kernel_rfl) rfl) hi rfl ⟨⟨rfl, trivial⟩, rfl, ks.length - (j + 1), by omega, j + 1, by omega, rfl, ?_, hLj, ?_, ?_⟩⟩
    · rw [wrap_id (by omega) (by omega)]; simp
    · have := a2 hc; omega
    · omega
  replace hLj : lightArms bs ps cur = L := by
    by_cases hlt : j < ks.length
    · rw [List.drop_eq_getElem_cons hlt, lightExs, if_pos (by omega)] at hLj; exact hLj
    · rw [List.drop_of_length_le (by omega), lightExs] at hLj; exact hLj
  refine br_i (fun hlt => br_i (fun hc => absurd ⟨by simpa using hlt, by simpa using hc⟩ hgo) (fun hc => ?_)) (fun hge => ?_)
  all_goals
    refine ⟨fun c v => ∃ j : Nat, j ≤ bs.length ∧ c = bs.length - j ∧ v.2.1 = (j : Int) ∧ lightArms (bs.drop j) (ps.drop j) v.1 = L ∧ -1099513827776 ≤ v.1 ∧ v.1 + j ≤ 3000, ⟨_, 0, Nat.zero_le _, rfl, rfl, by simpa using hLj, by dsimp only; omega, by dsimp only; omega⟩, ?_⟩
    rintro c ⟨cur2, i, u⟩ ⟨j2, hj2, rfl, hi, hLj2, b2, b3⟩
    dsimp only at hi hLj2 b2 b3 ⊢
    subst hi
    refine br_i (fun hlt2 => ?_) (fun hge2 => ?_)
    · have hlt2 : j2 < bs.length := by simpa using hlt2
      have hlt3 : j2 < ps.length := by omega
      rw [List.drop_eq_getElem_cons hlt2, List.drop_eq_getElem_cons hlt3, lightArms] at hLj2
      refine br_i (fun hc2 => ?_) (fun hc2 => ?_)
      · have hc2 : 0 ≤ cur2 := by simpa using hc2
        rw [if_neg (by omega)] at hLj2
        have hx := arPs_get bs ps j2 hlt2 hlt3
        obtain ⟨a1, a2, a3, a4⟩ := lightPt_ok ps[j2] cur2
        have q2 := a2 hc2
        obtain ⟨c1, c2, c3, c4⟩ := lightEx_ok bs[j2] (lightPt ps[j2] cur2)
        have q3 : -4194304 - 2097153 ≤ lightEx bs[j2] (lightPt ps[j2] cur2) := by
          by_cases hneg : lightPt ps[j2] cur2 < 0
          · have := c3 hneg; omega
          · have := c2 (by omega); omega
        have hp1 := light_pt ps[j2] cur2 (by omega) (by omega)
        have hi := ihb j2 hlt2 (wfExs_at bs hwb j2 hlt2) (lightPt ps[j2] cur2) (by omega) (by omega)
        obtain ⟨k', li', co', m', b', n', ks', ps', bs', hp⟩ : ∃ k' li' co' m' b' n' ks' ps' bs', bs[j2] = .mk k' li' co' m' b' n' ks' ps' bs' := by cases bs[j2]; exact ⟨_, _, _, _, _, _, _, _, _, rfl⟩
        obtain ⟨k2', li2', co2', n2', m2', ps2', hp2⟩ : ∃ k' li' co' n' m' ps', ps[j2] = .mk k' li' co' n' m' ps' := by cases ps[j2]; exact ⟨_, _, _, _, _, _, rfl⟩
        rw [hp, hp2] at hx hi hLj2 c1 q3
        rw [hp2] at hp1 a1
        refine ⟨_, _, _, _, _, _, _, _, _, _, _, _, _, _, ⟨by omega, by rw [Int.toNat_natCast]; exact hx, ?_⟩⟩
        refine ⟨_, _, _, _, _, _, _, _, _, _, _, _, _, _, ⟨by omega, by rw [Int.toNat_natCast]; exact hx, ?_⟩⟩
        refine ⟨_, call_p (enters_of Try.func38 (by kernel_rfl) rfl) hp1 rfl ?_⟩
        refine ⟨_, call_p (enters_of Try.func22 (by kernel_rfl) rfl) hi rfl ⟨⟨rfl, trivial⟩, rfl, bs.length - (j2 + 1), by omega, j2 + 1, by omega, rfl, ?_, hLj2, ?_, ?_⟩⟩
        · rw [wrap_id (by omega) (by omega)]; simp
        · omega
        · omega
      · have hc2 : cur2 < 0 := by have : ¬ 0 ≤ cur2 := by simpa using hc2
                                  omega
        rw [if_pos hc2] at hLj2
        exact ⟨by rw [← hLj2], rfl⟩
    · have hge2 : ¬ j2 < bs.length := by simpa using hge2
      rw [List.drop_of_length_le (by omega), lightArms] at hLj2
      · exact ⟨by rw [← hLj2], rfl⟩
      · simp
set_option maxHeartbeats 1000000 in
theorem light_prog (p : Pr) (hw : wfPr p) (l : Int) (h0 : 0 ≤ l) (h1 : l ≤ 3000) : PCalls Try.prog 6 [.agg (prP p), .con (.int .i64 l)] (fun r => r = .con (.int .i64 (lightPr p l))) := by
  obtain ⟨ds, fs, q, tm, st, cp, ini, hds⟩ := p
  obtain ⟨w1, w2, w3⟩ := hw
  dsimp only at w1 w2 w3
  obtain ⟨L, hL⟩ : ∃ L, lightPr ⟨ds, fs, q, tm, st, cp, ini, hds⟩ l = L := ⟨_, rfl⟩
  rw [hL]
  unfold lightPr at hL
  dsimp only at hL
  obtain ⟨a1, a2, a3, a4⟩ := lightTy_ok st l
  have b1' := a2 h0
  obtain ⟨b1, b2, b3, b4⟩ := lightEx_ok ini (lightTy st l)
  have b5 : -10000000 ≤ lightEx ini (lightTy st l) := by
    by_cases hn : lightTy st l < 0
    · have := b3 hn; omega
    · have := b2 (by omega); omega
  have hr := light_ty st l (by omega) h1
  have hb := light_ex ini w3 (lightTy st l) (by omega) (by omega)
  obtain ⟨z1, hz1⟩ : ∃ z, lightTy st l = z := ⟨_, rfl⟩
  rw [hz1] at hr hb hL b1 b5 a1 b1'
  obtain ⟨z2, hz2⟩ : ∃ z, lightEx ini z1 = z := ⟨_, rfl⟩
  rw [hz2] at hb hL b1 b5
  obtain ⟨k, n, ps, hp⟩ := ty_mk st
  obtain ⟨k', li', co', m', b', n', ks', ps', bs', hp2⟩ := ex_mk ini
  subst hp hp2
  refine a6 _ _ _ _ _ _ _ _ _ _ _ _ _ _ _ _ _ _ _ ?_
  unfold p6
  rw [List.length_map, List.length_map, List.length_map]
  refine ⟨_, call_p (enters_of Try.func8 (by kernel_rfl) rfl) hr rfl ?_⟩
  refine ⟨_, call_p (enters_of Try.func22 (by kernel_rfl) rfl) hb rfl ?_⟩
  -- the datas
  refine ⟨fun c v => ∃ j : Nat, j ≤ ds.length ∧ c = ds.length - j ∧ v.2.1 = (j : Int) ∧ lightHas hds (lightFus fs (lightDas (ds.drop j) v.1)) = L ∧ -100000000 ≤ v.1 ∧ v.1 + j ≤ 3000, ⟨_, 0, Nat.zero_le _, rfl, rfl, by simpa using hL, by dsimp only; omega, by dsimp only; omega⟩, ?_⟩
  rintro c ⟨cur, i, u⟩ ⟨j, hj, rfl, hi, hLj, b0, b1⟩
  dsimp only at hi hLj b0 b1 ⊢
  subst hi
  by_cases hgo : j < ds.length ∧ 0 ≤ cur
  · obtain ⟨hlt, hc⟩ := hgo
    rw [List.drop_eq_getElem_cons hlt, lightDas, if_neg (by omega)] at hLj
    have hx := map_get daP ds j hlt
    obtain ⟨cc, hcc⟩ : ∃ cc, ds[j] = cc := ⟨_, rfl⟩
    rw [hcc] at hx hLj
    obtain ⟨dli, dco, dnm, dcs⟩ := cc
    dsimp only at hLj
    have ht := take20_le dnm.size
    refine br_i (fun _ => br_i (fun _ => ?_) (fun hf => absurd hc (by simpa using hf))) (fun hf => absurd hlt (by simpa using hf))
    refine ⟨_, _, _, _, ⟨by omega, by rw [Int.toNat_natCast]; exact hx, ?_⟩⟩
    rw [min_take, wrap_id (n := cur - 1) (by omega) (by omega), wrap_id (n := cur - 1 - take20 dnm.size) (by omega) (by omega)]
    refine ⟨fun c v => ∃ j2 : Nat, j2 ≤ dcs.length ∧ c = dcs.length - j2 ∧ v.2.1 = (j2 : Int) ∧ lightHas hds (lightFus fs (lightDas (ds.drop (j + 1)) (lightCos (dcs.drop j2) v.1))) = L ∧ -100000000 ≤ v.1 ∧ v.1 + j2 + j + 1 ≤ 3000, ⟨_, 0, Nat.zero_le _, rfl, rfl, by simpa using hLj, by dsimp only; omega, by dsimp only; omega⟩, ?_⟩
    rintro c ⟨cur2, i, u⟩ ⟨j2, hj2, rfl, hi, hLj2, b2, b3⟩
    dsimp only at hi hLj2 b2 b3 ⊢
    subst hi
    refine ⟨_, _, _, _, ⟨by omega, by rw [Int.toNat_natCast]; exact hx, ?_⟩⟩
    rw [List.length_map]
    by_cases hgo2 : j2 < dcs.length ∧ 0 ≤ cur2
    · obtain ⟨hlt2, hc2⟩ := hgo2
      rw [List.drop_eq_getElem_cons hlt2, lightCos, if_neg (by omega)] at hLj2
      have hx2 := map_get coP dcs j2 hlt2
      obtain ⟨c3, hc3⟩ : ∃ cc, dcs[j2] = cc := ⟨_, rfl⟩
      rw [hc3] at hx2 hLj2
      obtain ⟨cn, cf⟩ := c3
      obtain ⟨q1, q2, q3, q4⟩ := lightTy_ok (coT ⟨cn, cf⟩) cur2
      have q5 := q2 hc2
      have hi2 := light_ty (coT ⟨cn, cf⟩) cur2 (by omega) (by omega)
      refine br_i (fun _ => br_i (fun _ => ?_) (fun hf => absurd hc2 (by simpa using hf))) (fun hf => absurd hlt2 (by simpa using hf))
      refine ⟨_, _, _, _, ⟨by omega, by rw [Int.toNat_natCast]; exact hx, ?_⟩⟩
      refine ⟨_, _, ⟨by omega, by rw [Int.toNat_natCast]; exact hx2, ?_⟩⟩
      refine ⟨_, _, _, _, ⟨by omega, by rw [Int.toNat_natCast]; exact hx, ?_⟩⟩
      refine ⟨_, _, ⟨by omega, by rw [Int.toNat_natCast]; exact hx2, ?_⟩⟩
      refine ⟨_, call_p (enters_of Try.func8 (by kernel_rfl) rfl) hi2 rfl ⟨⟨by trivial, by trivial, trivial⟩, by trivial, dcs.length - (j2 + 1), by omega, j2 + 1, by omega, rfl, ?_, hLj2, ?_, ?_⟩⟩
      · rw [wrap_id (by omega) (by omega)]; simp
      · omega
      · omega
    replace hLj2 : lightHas hds (lightFus fs (lightDas (ds.drop (j + 1)) cur2)) = L := by
      by_cases hlt2 : j2 < dcs.length
      · rw [List.drop_eq_getElem_cons hlt2, lightCos, if_pos (by omega)] at hLj2; exact hLj2
      · rw [List.drop_of_length_le (show dcs.length ≤ j2 by omega), lightCos] at hLj2; exact hLj2
    refine br_i (fun hlt2 => br_i (fun hc2 => absurd ⟨by simpa using hlt2, by simpa using hc2⟩ hgo2) (fun hc2 => ?_)) (fun hge2 => ?_)
    all_goals
      refine ⟨⟨by trivial, trivial⟩, by trivial, ds.length - (j + 1), by omega, j + 1, by omega, by trivial, ?_, hLj2, by omega, by omega⟩
      rw [wrap_id (by omega) (by omega)]; simp
  replace hLj : lightHas hds (lightFus fs cur) = L := by
    by_cases hlt : j < ds.length
    · rw [List.drop_eq_getElem_cons hlt, lightDas, if_pos (by omega)] at hLj; exact hLj
    · rw [List.drop_of_length_le (by omega), lightDas] at hLj; exact hLj
  refine br_i (fun hlt => br_i (fun hc => absurd ⟨by simpa using hlt, by simpa using hc⟩ hgo) (fun hc => ?_)) (fun hge => ?_)
  all_goals
    clear hgo
    -- the functions
    refine ⟨fun c v => ∃ j : Nat, j ≤ fs.length ∧ c = fs.length - j ∧ v.2.1 = (j : Int) ∧ lightHas hds (lightFus (fs.drop j) v.1) = L ∧ -200000000 ≤ v.1 ∧ v.1 + j ≤ 3000, ⟨_, 0, Nat.zero_le _, rfl, rfl, by simpa using hLj, by dsimp only; omega, by dsimp only; omega⟩, ?_⟩
    rintro c ⟨fcur, i, u⟩ ⟨f, hf, rfl, hi, hLf, g0, g1⟩
    dsimp only at hi hLf g0 g1 ⊢
    subst hi
    by_cases hgo : f < fs.length ∧ 0 ≤ fcur
    · obtain ⟨hlt, hc⟩ := hgo
      rw [List.drop_eq_getElem_cons hlt, lightFus, if_neg (by omega)] at hLf
      have hx := map_get fuP fs f hlt
      have hwf := w1 fs[f] (List.getElem_mem hlt)
      obtain ⟨cc, hcc⟩ : ∃ cc, fs[f] = cc := ⟨_, rfl⟩
      rw [hcc] at hx hLf hwf
      obtain ⟨fli, fco, fnm, fpa, fre, fbo⟩ := cc
      dsimp only at hwf
      unfold lightFu at hLf
      dsimp only at hLf
      have ht := take20_le fnm.size
      obtain ⟨a1, a2, a3, a4⟩ := lightTy_ok fre (fcur - 1 - take20 fnm.size)
      have e1 : -2097155 ≤ lightTy fre (fcur - 1 - take20 fnm.size) := by
        by_cases hn : fcur - 1 - take20 fnm.size < 0
        · have := a3 hn; omega
        · have := a2 (by omega); omega
      obtain ⟨b1, b2, b3, b4⟩ := lightEx_ok fbo (lightTy fre (fcur - 1 - take20 fnm.size))
      have e2 : -10000000 ≤ lightEx fbo (lightTy fre (fcur - 1 - take20 fnm.size)) := by
        by_cases hn : lightTy fre (fcur - 1 - take20 fnm.size) < 0
        · have := b3 hn; omega
        · have := b2 (by omega); omega
      have hr2 := light_ty fre (fcur - 1 - take20 fnm.size) (by omega) (by omega)
      have hb2 := light_ex fbo hwf (lightTy fre (fcur - 1 - take20 fnm.size)) (by omega) (by omega)
      obtain ⟨y1, hy1⟩ : ∃ z, lightTy fre (fcur - 1 - take20 fnm.size) = z := ⟨_, rfl⟩
      rw [hy1] at hr2 hb2 hLf b1 e2 a1 e1
      obtain ⟨y2, hy2⟩ : ∃ z, lightEx fbo y1 = z := ⟨_, rfl⟩
      rw [hy2] at hb2 hLf b1 e2
      clear a2 a3 a4 b2 b3 b4 hy1 hy2
      obtain ⟨k, n, ps, hp⟩ := ty_mk fre
      obtain ⟨k', li', co', m', b', n', ks', ps', bs', hp2⟩ := ex_mk fbo
      subst hp hp2
      refine br_i (fun _ => br_i (fun _ => ?_) (fun hf => absurd hc (by simpa using hf))) (fun hf => absurd hlt (by simpa using hf))
      refine ⟨_, _, _, _, _, _, _, _, _, _, _, _, _, _, _, ⟨by omega, by rw [Int.toNat_natCast]; exact hx, ?_⟩⟩
      rw [min_take, wrap_id (n := fcur - 1) (by omega) (by omega), wrap_id (n := fcur - 1 - take20 fnm.size) (by omega) (by omega), List.length_map]
      refine ⟨_, call_p (enters_of Try.func8 (by kernel_rfl) rfl) hr2 rfl ?_⟩
      refine ⟨_, call_p (enters_of Try.func22 (by kernel_rfl) rfl) hb2 rfl ?_⟩
      refine ⟨fun c v => ∃ j2 : Nat, j2 ≤ fpa.length ∧ c = fpa.length - j2 ∧ v.2.1 = (j2 : Int) ∧ lightHas hds (lightFus (fs.drop (f + 1)) (lightPas (fpa.drop j2) v.1)) = L ∧ -100000000 ≤ v.1 ∧ v.1 + j2 + f + 1 ≤ 3000, ⟨_, 0, Nat.zero_le _, rfl, rfl, by simpa using hLf, by dsimp only; omega, by dsimp only; omega⟩, ?_⟩
      rintro c ⟨cur2, i, u⟩ ⟨j2, hj2, rfl, hi, hLj2, b2, b3⟩
      dsimp only at hi hLj2 b2 b3 ⊢
      subst hi
      by_cases hgo2 : j2 < fpa.length ∧ 0 ≤ cur2
      · obtain ⟨hlt2, hc2⟩ := hgo2
        rw [List.drop_eq_getElem_cons hlt2, lightPas, if_neg (by omega)] at hLj2
        have hx2 := map_get paP fpa j2 hlt2
        obtain ⟨c3, hc3⟩ : ∃ cc, fpa[j2] = cc := ⟨_, rfl⟩
        rw [hc3] at hx2 hLj2
        obtain ⟨cn, ct⟩ := c3
        dsimp only at hLj2
        have ht2 := take20_le cn.size
        obtain ⟨q1, q2, q3, q4⟩ := lightTy_ok ct (cur2 - take20 cn.size)
        have q5 : -10000000 ≤ lightTy ct (cur2 - take20 cn.size) := by
          by_cases hn : cur2 - take20 cn.size < 0
          · have := q3 hn; omega
          · have := q2 (by omega); omega
        have hi2 := light_ty ct (cur2 - take20 cn.size) (by omega) (by omega)
        obtain ⟨k, n, ps, hp⟩ := ty_mk ct
        subst hp
        refine br_i (fun _ => br_i (fun _ => ?_) (fun hf => absurd hc2 (by simpa using hf))) (fun hf => absurd hlt2 (by simpa using hf))
        refine ⟨_, _, _, _, ⟨by omega, by rw [Int.toNat_natCast]; exact hx2, ?_⟩⟩
        refine ⟨_, _, _, _, ⟨by omega, by rw [Int.toNat_natCast]; exact hx2, ?_⟩⟩
        rw [min_take, wrap_id (n := cur2 - take20 cn.size) (by omega) (by omega)]
        refine ⟨_, call_p (enters_of Try.func8 (by kernel_rfl) rfl) hi2 rfl ⟨⟨by trivial, by trivial, by trivial, trivial⟩, by trivial, fpa.length - (j2 + 1), by omega, j2 + 1, by omega, rfl, ?_, hLj2, ?_, ?_⟩⟩
        · rw [wrap_id (by omega) (by omega)]; simp
        · omega
        · omega
      replace hLj2 : lightHas hds (lightFus (fs.drop (f + 1)) cur2) = L := by
        by_cases hlt2 : j2 < fpa.length
        · rw [List.drop_eq_getElem_cons hlt2, lightPas, if_pos (by omega)] at hLj2; exact hLj2
        · rw [List.drop_of_length_le (show fpa.length ≤ j2 by omega), lightPas] at hLj2; exact hLj2
      refine br_i (fun hlt2 => br_i (fun hc2 => absurd ⟨by simpa using hlt2, by simpa using hc2⟩ hgo2) (fun hc2 => ?_)) (fun hge2 => ?_)
      all_goals
        refine ⟨⟨by trivial, trivial⟩, by trivial, fs.length - (f + 1), by omega, f + 1, by omega, by trivial, ?_, hLj2, by omega, by omega⟩
        rw [wrap_id (by omega) (by omega)]; simp
    replace hLf : lightHas hds fcur = L := by
      by_cases hlt : f < fs.length
      · rw [List.drop_eq_getElem_cons hlt, lightFus, if_pos (by omega)] at hLf; exact hLf
      · rw [List.drop_of_length_le (by omega), lightFus] at hLf; exact hLf
    refine br_i (fun hlt => br_i (fun hc => absurd ⟨by simpa using hlt, by simpa using hc⟩ hgo) (fun hc => ?_)) (fun hge => ?_)
    all_goals
      clear hgo
      -- the handlers
      refine ⟨fun c v => ∃ j : Nat, j ≤ hds.length ∧ c = hds.length - j ∧ v.2.1 = (j : Int) ∧ lightHas (hds.drop j) v.1 = L ∧ -300000000 ≤ v.1 ∧ v.1 + j ≤ 3000, ⟨_, 0, Nat.zero_le _, rfl, rfl, by simpa using hLf, by dsimp only; omega, by dsimp only; omega⟩, ?_⟩
      rintro c ⟨gcur, i, u⟩ ⟨g, hg, rfl, hi, hLg, r0, r1⟩
      dsimp only at hi hLg r0 r1 ⊢
      subst hi
      by_cases hgo : g < hds.length ∧ 0 ≤ gcur
      · obtain ⟨hlt, hc⟩ := hgo
        rw [List.drop_eq_getElem_cons hlt, lightHas, if_neg (by omega)] at hLg
        have hx := map_get haP hds g hlt
        have hwf := w2 hds[g] (List.getElem_mem hlt)
        obtain ⟨cc, hcc⟩ : ∃ cc, hds[g] = cc := ⟨_, rfl⟩
        rw [hcc] at hx hLg hwf
        obtain ⟨hli, hco, hnm, hpa, hcp, hbo⟩ := cc
        obtain ⟨pn, pt⟩ := hpa
        dsimp only at hwf
        unfold lightHa at hLg
        dsimp only at hLg
        have ht := take20_le hnm.size
        have ht2 := take20_le pn.size
        obtain ⟨a1, a2, a3, a4⟩ := lightTy_ok pt (gcur - 1 - take20 hnm.size - take20 pn.size)
        have e1 : -4097155 ≤ lightTy pt (gcur - 1 - take20 hnm.size - take20 pn.size) := by
          by_cases hn : gcur - 1 - take20 hnm.size - take20 pn.size < 0
          · have := a3 hn; omega
          · have := a2 (by omega); omega
        obtain ⟨b1, b2, b3, b4⟩ := lightEx_ok hbo (lightTy pt (gcur - 1 - take20 hnm.size - take20 pn.size))
        have e2 : -10000000 ≤ lightEx hbo (lightTy pt (gcur - 1 - take20 hnm.size - take20 pn.size)) := by
          by_cases hn : lightTy pt (gcur - 1 - take20 hnm.size - take20 pn.size) < 0
          · have := b3 hn; omega
          · have := b2 (by omega); omega
        have hr2 := light_ty pt (gcur - 1 - take20 hnm.size - take20 pn.size) (by omega) (by omega)
        have hb2 := light_ex hbo hwf (lightTy pt (gcur - 1 - take20 hnm.size - take20 pn.size)) (by omega) (by omega)
        obtain ⟨k, n, ps, hp⟩ := ty_mk pt
        obtain ⟨k', li', co', m', b', n', ks', ps', bs', hp2⟩ := ex_mk hbo
        subst hp hp2
        refine br_i (fun _ => br_i (fun _ => ?_) (fun hf => absurd hc (by simpa using hf))) (fun hf => absurd hlt (by simpa using hf))
        refine ⟨_, _, _, _, _, _, _, _, _, _, _, _, _, _, _, _, ⟨by omega, by rw [Int.toNat_natCast]; exact hx, ?_⟩⟩
        rw [min_take, min_take, wrap_id (n := gcur - 1) (by omega) (by omega), wrap_id (n := gcur - 1 - take20 hnm.size) (by omega) (by omega), wrap_id (n := gcur - 1 - take20 hnm.size - take20 pn.size) (by omega) (by omega)]
        refine ⟨_, call_p (enters_of Try.func8 (by kernel_rfl) rfl) hr2 rfl ?_⟩
        refine ⟨_, call_p (enters_of Try.func22 (by kernel_rfl) rfl) hb2 rfl ⟨⟨by trivial, trivial⟩, by trivial, hds.length - (g + 1), by omega, g + 1, by omega, rfl, ?_, hLg, ?_, ?_⟩⟩
        · rw [wrap_id (by omega) (by omega)]; simp
        · omega
        · omega
      replace hLg : gcur = L := by
        by_cases hlt : g < hds.length
        · rw [List.drop_eq_getElem_cons hlt, lightHas, if_pos (by omega)] at hLg; exact hLg
        · rw [List.drop_of_length_le (by omega), lightHas] at hLg; exact hLg
      refine br_i (fun hlt => br_i (fun hc => absurd ⟨by simpa using hlt, by simpa using hc⟩ hgo) (fun hc => ⟨by rw [hLg], rfl⟩)) (fun hge => ⟨by rw [hLg], rfl⟩)
end Go.Proofs.Ytgkagelejoknmaa.Deep

namespace Go.Proofs.Ytgkagelejoknmaa.Deep
open Go.RowKit
set_option linter.unusedVariables false
set_option linter.unusedSimpArgs false
def take2k (n : Nat) : Int := if (n : Int) ≤ 2000 then n else 2000
theorem min_take2 (n : Nat) : minI (n : Int) 2000 = take2k n := by unfold minI take2k; split <;> split <;> omega
theorem take2k_le (n : Nat) : 0 ≤ take2k n ∧ take2k n ≤ 2000 ∧ (take2k n < 2000 → (n : Int) = take2k n) := by unfold take2k; split <;> omega
def lightDs : List Da → Int → Int
  | [], l => l
  | d :: ds, l => if l < 0 then l else lightDs ds (lightCos d.cons (l - (1 + take2k d.name.size)))
def lightB (ds : List Da) : Bool := decide (lightDs ds 2000 ≥ 0) && decide ((ds.length : Int) ≤ 60)
theorem lightDs_neg (ts : List Da) (l : Int) (h : l < 0) : lightDs ts l = l := by cases ts <;> simp [lightDs, h]
def fewDa (d : Da) : Prop := d.name.size ≤ 2000 ∧ d.cons.length ≤ 3000 ∧ ∀ c ∈ d.cons, smallCo c
theorem lightDs_ok : ∀ (ds : List Da) (l : Int), lightDs ds l ≤ l ∧ (0 ≤ lightDs ds l → l ≤ 2000 → (ds.length : Int) ≤ l ∧ ∀ d ∈ ds, fewDa d)
  | [], l => by unfold lightDs; exact ⟨by omega, fun h _ => ⟨by simpa using h, by simp⟩⟩
  | d :: ds, l => by
    unfold lightDs
    split
    · exact ⟨by omega, fun h => by omega⟩
    · obtain ⟨t1, t2, t3⟩ := take2k_le d.name.size
      obtain ⟨a1, a2, a3⟩ := lightCos_ok d.cons (l - (1 + take2k d.name.size))
      obtain ⟨b1, b2⟩ := lightDs_ok ds (lightCos d.cons (l - (1 + take2k d.name.size)))
      refine ⟨by omega, fun h h2 => ?_⟩
      obtain ⟨c1, c2⟩ := b2 h (by omega)
      obtain ⟨d1, d2⟩ := a3 (by omega) (by omega)
      have := t3 (by omega)
      refine ⟨by simp; omega, fun x hx => ?_⟩
      rcases List.mem_cons.1 hx with rfl | hx
      · exact ⟨by omega, by omega, d2⟩
      · exact c2 x hx
theorem lightB_few {ds : List Da} (h : lightB ds = true) : ds.length ≤ 60 ∧ ∀ d ∈ ds, fewDa d := by
  unfold lightB at h
  simp only [Bool.and_eq_true, decide_eq_true_eq] at h
  exact ⟨by omega, ((lightDs_ok ds 2000).2 (by omega) (by omega)).2⟩
theorem coP_cons (cs : List Co) (k : Nat) (h : k < cs.length) : (cs.map coP)[k]? = some [.con (.string cs[k].name), .sl (tyPs cs[k].fields)] := by rw [map_get _ _ _ h]; rfl
theorem daP_cons (ds : List Da) (k : Nat) (h : k < ds.length) : (ds.map daP)[k]? = some [.con (.int .i64 ds[k].line), .con (.int .i64 ds[k].col), .con (.string ds[k].name), .sl (ds[k].cons.map coP)] := by rw [map_get _ _ _ h]; rfl
theorem light_l (ds : List Da) : PCalls Try.prog 7 [.sl (ds.map daP)] (fun r => r = .con (.bool (lightB ds))) := by
  refine a7 _ _ ?_
  unfold p7
  obtain ⟨L, hL⟩ : ∃ L, lightDs ds 2000 = L := ⟨_, rfl⟩
  have hB : lightB ds = (decide (L ≥ 0) && decide ((ds.length : Int) ≤ 60)) := by unfold lightB; rw [hL]
  rw [hB]
  rw [List.length_map]
  refine ⟨fun c v => ∃ j : Nat, j ≤ ds.length ∧ c = ds.length - j ∧ v.2.1 = (j : Int) ∧ lightDs (ds.drop j) v.1 = L ∧ -3000000 ≤ v.1 ∧ v.1 + j ≤ 2000, ⟨_, 0, Nat.zero_le _, rfl, rfl, by simpa using hL, by dsimp only; omega, by dsimp only; omega⟩, ?_⟩
  rintro c ⟨cur, i, u⟩ ⟨j, hj, rfl, hi, hLj, b0, b1⟩
  dsimp only at hi hLj b0 b1 ⊢
  subst hi
  have fin : j = ds.length ∨ cur < 0 → cur = L := fun h => by
    rcases h with h | h
    · rw [List.drop_of_length_le (by omega), lightDs] at hLj; exact hLj
    · rw [lightDs_neg _ _ h] at hLj; exact hLj
  refine br_i (fun hlt => ?_) (fun hge => ?_)
  · have hlt : j < ds.length := by simpa using hlt
    refine br_i (fun hc => ?_) (fun hc => ?_)
    · have hc : 0 ≤ cur := by simpa using hc
      have hx := daP_cons ds j hlt
      rw [List.drop_eq_getElem_cons hlt, lightDs, if_neg (by omega)] at hLj
      obtain ⟨d, hd⟩ : ∃ d, ds[j] = d := ⟨_, rfl⟩
      rw [hd] at hx hLj
      obtain ⟨li, co, nm, cs⟩ := d
      dsimp only at hx hLj
      obtain ⟨t1, t2, t3⟩ := take2k_le nm.size
      refine ⟨_, _, _, _, ⟨by omega, by rw [Int.toNat_natCast]; exact hx, ?_⟩⟩
      rw [min_take2, wrap_id (n := 1 + take2k nm.size) (by omega) (by omega), wrap_id (by omega) (by omega)]
      refine ⟨fun c v => ∃ k : Nat, k ≤ cs.length ∧ c = cs.length - k ∧ v.2.1 = (k : Int) ∧ lightDs (ds.drop (j + 1)) (lightCos (cs.drop k) v.1) = L ∧ -3000000 ≤ v.1 ∧ v.1 + k + j + 1 ≤ 2000, ⟨_, 0, Nat.zero_le _, rfl, rfl, by simpa using hLj, by dsimp only; omega, by dsimp only; omega⟩, ?_⟩
      rintro c ⟨cur2, i, u⟩ ⟨k, hk, rfl, hi, hLk, c0, c1⟩
      dsimp only at hi hLk c0 c1 ⊢
      subst hi
      refine ⟨_, _, _, _, ⟨by omega, by rw [Int.toNat_natCast]; exact hx, ?_⟩⟩
      rw [List.length_map]
      have fin2 : k = cs.length ∨ cur2 < 0 → lightDs (ds.drop (j + 1)) cur2 = L := fun h => by
        rcases h with h | h
        · rw [show cs.drop k = [] from List.drop_of_length_le (by omega), lightCos] at hLk; exact hLk
        · rw [lightCos_neg _ _ h] at hLk; exact hLk
      refine br_i (fun hlt2 => ?_) (fun hge2 => ?_)
      · have hlt2 : k < cs.length := by simpa using hlt2
        refine br_i (fun hc2 => ?_) (fun hc2 => ?_)
        · have hc2 : 0 ≤ cur2 := by simpa using hc2
          have hy := coP_cons cs k hlt2
          rw [List.drop_eq_getElem_cons hlt2, lightCos, if_neg (by omega)] at hLk
          obtain ⟨e, he⟩ : ∃ e, cs[k] = e := ⟨_, rfl⟩
          rw [he] at hy hLk
          obtain ⟨cn, cf⟩ := e
          dsimp only at hy
          have hcall := light_ty (coT ⟨cn, cf⟩) cur2 (by omega) (by omega)
          obtain ⟨z1, z2, z3, z4⟩ := lightTy_ok (coT ⟨cn, cf⟩) cur2
          have z2 := z2 hc2
          refine ⟨_, _, _, _, ⟨by omega, by rw [Int.toNat_natCast]; exact hx, ?_⟩⟩
          refine ⟨_, _, ⟨by omega, by rw [Int.toNat_natCast]; exact hy, ?_⟩⟩
          refine ⟨_, _, _, _, ⟨by omega, by rw [Int.toNat_natCast]; exact hx, ?_⟩⟩
          refine ⟨_, _, ⟨by omega, by rw [Int.toNat_natCast]; exact hy, ?_⟩⟩
          refine ⟨_, call_p (enters_of Try.func8 (by kernel_rfl) rfl) hcall rfl ⟨⟨rfl, rfl, trivial⟩, rfl, cs.length - (k + 1), by omega, k + 1, by omega, rfl, ?_, hLk, by omega, by omega⟩⟩
          rw [wrap_id (by omega) (by omega)]; simp
        · have hc2 : cur2 < 0 := by have : ¬ 0 ≤ cur2 := by simpa using hc2
                                    omega
          refine ⟨⟨rfl, trivial⟩, rfl, ds.length - (j + 1), by omega, j + 1, by omega, rfl, ?_, fin2 (.inr hc2), by omega, by omega⟩
          rw [wrap_id (by omega) (by omega)]; simp
      · have hge2 : ¬ k < cs.length := by simpa using hge2
        refine ⟨⟨rfl, trivial⟩, rfl, ds.length - (j + 1), by omega, j + 1, by omega, rfl, ?_, fin2 (.inl (by omega)), by omega, by omega⟩
        rw [wrap_id (by omega) (by omega)]; simp
    · have hc' : cur < 0 := by have : ¬ 0 ≤ cur := by simpa using hc
                               omega
      refine br_i (fun hc2 => absurd hc2 (by rw [hc]; exact Bool.false_ne_true)) (fun _ => ⟨?_, rfl⟩)
      rw [← fin (.inr hc'), hc]; rfl
  · have hge : ¬ j < ds.length := by simpa using hge
    refine br_i (fun hc => ⟨?_, rfl⟩) (fun hc => ⟨?_, rfl⟩)
    · rw [← fin (.inl (by omega)), hc]; rfl
    · rw [← fin (.inl (by omega)), hc]; rfl
end Go.Proofs.Ytgkagelejoknmaa.Deep

namespace Go.Proofs.Ytgkagelejoknmaa.Deep
open Go.RowKit
set_option linter.unusedVariables false
def loops10 (id : Nat) : Option (List Nat × List (Nat × Sh)) := match Nat.beq id 2 with | true => some ([3, 10, 11, 2000000], [(12, .int .i64)]) | false => none
def p10 (l1 : List (List PV)) (s2 : ByteArray) (Q : PV → Heap → Prop) : Prop :=
∃ I3 : Nat → ((Int) × Unit) → Prop, (∃ n, I3 n (0, ())) ∧ ∀ (n4 : Nat) (v5 : (Int) × Unit), I3 n4 v5 →
  (br ((decide ((v5.1 : Int) < (List.length l1 : Int))))
  (∃ i6 : Int, ∃ i7 : Int, ∃ s8 : ByteArray, ∃ l9 : List (List PV), IdxN l1 v5.1 [i6, i7, s8, l9]
  (∃ i10 : Int, CallN Try.prog 23 [l9, (.fn 24 [(.ept [s2] 0)])] [[], [i6, i7, s8, l9]] i10
  (br ((decide ((i10 : Int) ≥ 0)))
  (Q (.tup [v5.1, i10, (.con (.bool true))]) [[], [i6, i7, s8, l9]])
  ((@Eq PV (.ept [s2] 0) (.ept [s2] 0) ∧ @Eq PV l1 l1 ∧ @Eq PV (.con (.int .i64 (List.length l1 : Int))) (.con (.int .i64 (List.length l1 : Int))) ∧ True) ∧ @Eq Heap [[]] [[]] ∧ ∃ k11, k11 < n4 ∧ I3 k11 ((IntKind.wrap .i64 (v5.1 + 1)), ())))))
  (Q (.tup [(.con (.int .i64 0)), (.con (.int .i64 0)), (.con (.bool false))]) [[]]))
theorem a10 (l1 : List (List PV)) (s2 : ByteArray) (Q : PV → Heap → Prop) (h : p10 l1 s2 Q) : ACalls Try.prog 10 [l1, s2] [] Q := by
  have hb : Option.some (bodyOf Try.f10) = Try.f10.body := by kernel_rfl
  exact acalls_eq (S := S) (L := loops10) mixed tok Try.func10 hb.symm (by kernel_rfl) h
def loops30 (id : Nat) : Option (List Nat × List (Nat × Sh)) := match Nat.beq id 3 with | true => some ([3, 9, 10], [(11, .int .i64), (1000000, .mpc 9 3)]) | false => none
def p30 (l1 : List (List PV)) (Q : PV → Heap → Prop) : Prop :=
∃ I2 : Nat → ((Int) × ((Nat × DataW Unit)) × Unit) → Prop, (∃ n, I2 n (0, (0, (.map [])), ())) ∧ ∀ (n3 : Nat) (v4 : (Int) × ((Nat × DataW Unit)) × Unit), I2 n3 v4 →
  (br ((decide ((v4.1 : Int) < (List.length l1 : Int))))
  (∃ i5 : Int, ∃ i6 : Int, ∃ s7 : ByteArray, ∃ l8 : List (List PV), IdxN l1 v4.1 [i5, i6, s7, l8]
  (∃ c9 : Int, ∃ b10 : Bool, MapO v4.2.1.2 s7 .i64 c9 b10
  (br ((!b10))
  (MapU v4.2.1.1 s7 .i64 v4.1
  ((@Eq PV (.mp 0) (.mp 0) ∧ @Eq PV l1 l1 ∧ @Eq PV (.con (.int .i64 (List.length l1 : Int))) (.con (.int .i64 (List.length l1 : Int))) ∧ True) ∧ @Eq Heap [[(.mpc 9 3 (v4.2.1.1 + 1) (DataW.put v4.2.1.2 (.string (Array.toList (ByteArray.data s7))) (.lit (.int .i64 v4.1))))]] [[(.mpc 9 3 (v4.2.1.1 + 1) (DataW.put v4.2.1.2 (.string (Array.toList (ByteArray.data s7))) (.lit (.int .i64 v4.1))))]] ∧ ∃ k11, k11 < n3 ∧ I2 k11 ((IntKind.wrap .i64 (v4.1 + 1)), ((v4.2.1.1 + 1), (DataW.put v4.2.1.2 (.string (Array.toList (ByteArray.data s7))) (.lit (.int .i64 v4.1)))), ())))
  ((@Eq PV (.mp 0) (.mp 0) ∧ @Eq PV l1 l1 ∧ @Eq PV (.con (.int .i64 (List.length l1 : Int))) (.con (.int .i64 (List.length l1 : Int))) ∧ True) ∧ @Eq Heap [[(.mpc 9 3 v4.2.1.1 v4.2.1.2)]] [[(.mpc 9 3 v4.2.1.1 v4.2.1.2)]] ∧ ∃ k12, k12 < n3 ∧ I2 k12 ((IntKind.wrap .i64 (v4.1 + 1)), (v4.2.1.1, v4.2.1.2), ())))))
  (Q (.mp 0) [[(.mpc 9 3 v4.2.1.1 v4.2.1.2)]]))
theorem a30 (l1 : List (List PV)) (Q : PV → Heap → Prop) (h : p30 l1 Q) : ACalls Try.prog 30 [l1] [] Q := by
  have hb : Option.some (bodyOf Try.f30) = Try.f30.body := by kernel_rfl
  exact acalls_eq (S := S) (L := loops30) mixed tok Try.func30 hb.symm (by kernel_rfl) h
def p31 (i1 : Int) (s2 : ByteArray) (l3 : List (List PV)) (n4 : Nat) (D5 : DataW Unit) (Q : PV → Heap → Prop) : Prop :=
br (((i1 : Int) == 2))
  (∃ c6 : Int, ∃ b7 : Bool, MapO D5 s2 .i64 c6 b7
  (br ((!b7))
  (Q (.con (.bool false)) [[(.mpc 9 3 n4 D5)]])
  (∃ b8 : Bool, CallF Try.prog 41 [(.mp 0), l3] [[(.mpc 9 3 n4 D5)]] b8 [[(.mpc 9 3 n4 D5)]]
  (Q b8 [[(.mpc 9 3 n4 D5)]]))))
  (∃ b9 : Bool, CallF Try.prog 41 [(.mp 0), l3] [[(.mpc 9 3 n4 D5)]] b9 [[(.mpc 9 3 n4 D5)]]
  (Q b9 [[(.mpc 9 3 n4 D5)]]))
theorem a31 (i1 : Int) (s2 : ByteArray) (l3 : List (List PV)) (n4 : Nat) (D5 : DataW Unit) (Q : PV → Heap → Prop) (h : p31 i1 s2 l3 n4 D5 Q) : ACalls Try.prog 31 [(.mp 0), (.agg [i1, s2, l3])] [[(.mpc 9 3 n4 D5)]] Q := by
  have hb : Option.some (bodyOf Try.f31) = Try.f31.body := by kernel_rfl
  exact acalls_canon (res := [.cell (.bool)]) (post := [.keep]) (acalls_eq (S := S) (L := loops29) mixed tok Try.func31 hb.symm (by kernel_rfl) h)
def loops41 (id : Nat) : Option (List Nat × List (Nat × Sh)) := match Nat.beq id 2 with | true => some ([0, 7, 8], [(9, .int .i64)]) | false => none
def p41 (l1 : List (List PV)) (n2 : Nat) (D3 : DataW Unit) (Q : PV → Heap → Prop) : Prop :=
∃ I4 : Nat → ((Int) × Unit) → Prop, (∃ n, I4 n (0, ())) ∧ ∀ (n5 : Nat) (v6 : (Int) × Unit), I4 n5 v6 →
  (br ((decide ((v6.1 : Int) < (List.length l1 : Int))))
  (∃ i7 : Int, ∃ s8 : ByteArray, ∃ l9 : List (List PV), IdxN l1 v6.1 [i7, s8, l9]
  (∃ b10 : Bool, CallF Try.prog 31 [(.mp 0), (.agg [i7, s8, l9])] [[(.mpc 9 3 n2 D3)]] b10 [[(.mpc 9 3 n2 D3)]]
  (br ((!b10))
  (Q (.con (.bool false)) [[(.mpc 9 3 n2 D3)]])
  ((@Eq PV (.mp 0) (.mp 0) ∧ @Eq PV l1 l1 ∧ @Eq PV (.con (.int .i64 (List.length l1 : Int))) (.con (.int .i64 (List.length l1 : Int))) ∧ True) ∧ @Eq Heap [[(.mpc 9 3 n2 D3)]] [[(.mpc 9 3 n2 D3)]] ∧ ∃ k11, k11 < n5 ∧ I4 k11 ((IntKind.wrap .i64 (v6.1 + 1)), ())))))
  (Q (.con (.bool true)) [[(.mpc 9 3 n2 D3)]]))
theorem a41 (l1 : List (List PV)) (n2 : Nat) (D3 : DataW Unit) (Q : PV → Heap → Prop) (h : p41 l1 n2 D3 Q) : ACalls Try.prog 41 [(.mp 0), l1] [[(.mpc 9 3 n2 D3)]] Q := by
  have hb : Option.some (bodyOf Try.f41) = Try.f41.body := by kernel_rfl
  exact acalls_canon (res := [.cell (.bool)]) (post := [.keep]) (acalls_eq (S := S) (L := loops41) mixed tok Try.func41 hb.symm (by kernel_rfl) h)
def p17 (l1 : List (List PV)) (i2 : Int) (s3 : ByteArray) (l4 : List (List PV)) (Q : PV → Heap → Prop) : Prop :=
∃ n5 : Nat, ∃ D6 : DataW Unit, CallF Try.prog 30 [l1] [] (.mp 0) [[(.mpc 9 3 n5 D6)]]
  (∃ b7 : Bool, CallF Try.prog 31 [(.mp 0), (.agg [i2, s3, l4])] [[(.mpc 9 3 n5 D6)]] b7 [[(.mpc 9 3 n5 D6)]]
  (Q b7 [[i2, s3, l4], [(.mpc 9 3 n5 D6)], [.tip]]))
theorem a17 (l1 : List (List PV)) (i2 : Int) (s3 : ByteArray) (l4 : List (List PV)) (Q : PV → Heap → Prop) (h : p17 l1 i2 s3 l4 Q) : ACalls Try.prog 17 [l1, (.agg [i2, s3, l4])] [] Q := by
  have hb : Option.some (bodyOf Try.f17) = Try.f17.body := by kernel_rfl
  exact acalls_eq (S := S) (L := loops29) mixed tok Try.func17 hb.symm (by kernel_rfl) h
def loops42 (id : Nat) : Option (List Nat × List (Nat × Sh)) := match Nat.beq id 3 with | true => some ([0, 12, 13], [(1, .own 0 3 1), (8, .bool), (14, .int .i64)]) | false => none
def p42 (l1 l2 : List (List PV)) (n3 : Nat) (D4 : DataW Unit) (Q : PV → Heap → Prop) : Prop :=
∃ I5 : Nat → ((List (List PV)) × (Bool) × (Int) × Unit) → Prop, (∃ n, I5 n (l1, true, 0, ())) ∧ ∀ (n6 : Nat) (v7 : (List (List PV)) × (Bool) × (Int) × Unit), I5 n6 v7 →
  (br ((decide ((v7.2.2.1 : Int) < (List.length l2 : Int))))
  (∃ i8 : Int, ∃ s9 : ByteArray, ∃ l10 : List (List PV), IdxN l2 v7.2.2.1 [i8, s9, l10]
  (br (((i8 : Int) == 0))
  (br ((!v7.2.1))
  (Q (.tup [(.own 2 3 1 []), (.con (.bool false))]) [[(.mpc 9 3 n3 D4)], [], [.tip]])
  ((@Eq PV (.mp 0) (.mp 0) ∧ @Eq PV l2 l2 ∧ @Eq PV (.con (.int .i64 (List.length l2 : Int))) (.con (.int .i64 (List.length l2 : Int))) ∧ True) ∧ @Eq Heap [[(.mpc 9 3 n3 D4)], []] [[(.mpc 9 3 n3 D4)], []] ∧ ∃ k11, k11 < n6 ∧ I5 k11 (v7.1, v7.2.1, (IntKind.wrap .i64 (v7.2.2.1 + 1)), ())))
  (br (((i8 : Int) == 1))
  (br ((!v7.2.1))
  (Q (.tup [(.own 2 3 1 []), (.con (.bool false))]) [[(.mpc 9 3 n3 D4)], [], [.tip]])
  ((@Eq PV (.mp 0) (.mp 0) ∧ @Eq PV l2 l2 ∧ @Eq PV (.con (.int .i64 (List.length l2 : Int))) (.con (.int .i64 (List.length l2 : Int))) ∧ True) ∧ @Eq Heap [[(.mpc 9 3 n3 D4)], []] [[(.mpc 9 3 n3 D4)], []] ∧ ∃ k12, k12 < n6 ∧ I5 k12 (v7.1, v7.2.1, (IntKind.wrap .i64 (v7.2.2.1 + 1)), ())))
  (br (((i8 : Int) == 2))
  (∃ c13 : Int, ∃ b14 : Bool, MapO D4 s9 .i64 c13 b14
  (AppN v7.1 [[c13]] 1 8 PV.one
  (br ((!b14))
  (Q (.tup [(.own 2 3 1 []), (.con (.bool false))]) [[(.mpc 9 3 n3 D4)], [], [.tip]])
  ((@Eq PV (.mp 0) (.mp 0) ∧ @Eq PV l2 l2 ∧ @Eq PV (.con (.int .i64 (List.length l2 : Int))) (.con (.int .i64 (List.length l2 : Int))) ∧ True) ∧ @Eq Heap [[(.mpc 9 3 n3 D4)], []] [[(.mpc 9 3 n3 D4)], []] ∧ ∃ k15, k15 < n6 ∧ I5 k15 ((v7.1 ++ ([[c13]] : List (List PV))), b14, (IntKind.wrap .i64 (v7.2.2.1 + 1)), ())))))
  (br (((i8 : Int) == 3))
  (∃ l16 : List (List PV), ∃ b17 : Bool, CallF Try.prog 42 [(.mp 0), (.own 1 3 1 v7.1), l10] [[(.mpc 9 3 n3 D4)], [.tip]] (.tup [(.own 2 3 1 l16), b17]) [[(.mpc 9 3 n3 D4)], [], [.tip]]
  (br ((!b17))
  (Q (.tup [(.own 2 3 1 []), (.con (.bool false))]) [[(.mpc 9 3 n3 D4)], [], [.tip]])
  ((@Eq PV (.mp 0) (.mp 0) ∧ @Eq PV l2 l2 ∧ @Eq PV (.con (.int .i64 (List.length l2 : Int))) (.con (.int .i64 (List.length l2 : Int))) ∧ True) ∧ @Eq Heap [[(.mpc 9 3 n3 D4)], []] [[(.mpc 9 3 n3 D4)], []] ∧ ∃ k18, k18 < n6 ∧ I5 k18 (l16, b17, (IntKind.wrap .i64 (v7.2.2.1 + 1)), ()))))
  (Q (.tup [(.own 2 3 1 []), (.con (.bool false))]) [[(.mpc 9 3 n3 D4)], [], [.tip]]))))))
  (Q (.tup [(.own 2 3 1 v7.1), (.con (.bool true))]) [[(.mpc 9 3 n3 D4)], [], [.tip]]))
theorem a42 (l1 l2 : List (List PV)) (n3 : Nat) (D4 : DataW Unit) (Q : PV → Heap → Prop) (h : p42 l1 l2 n3 D4 Q) : ACalls Try.prog 42 [(.mp 0), (.own 1 3 1 l1), l2] [[(.mpc 9 3 n3 D4)], [.tip]] Q := by
  have hb : Option.some (bodyOf Try.f42) = Try.f42.body := by kernel_rfl
  exact acalls_canon (res := [.cell (.own 2 3 1), .cell (.bool)]) (post := [.keep, .dead, .tip]) (acalls_eq (S := S) (L := loops42) mixed tok Try.func42 hb.symm (by kernel_rfl) h)
end Go.Proofs.Ytgkagelejoknmaa.Deep

namespace Go.Proofs.Ytgkagelejoknmaa.Deep
open Go.RowKit
set_option linter.unusedVariables false
set_option linter.unusedSimpArgs false
theorem beq_str (s t : ByteArray) : (ByteArray.toList s == ByteArray.toList t) = decide (s = t) := by
  rw [ByteArray.toList_eq, ByteArray.toList_eq, Bool.eq_iff_iff]
  simp only [beq_iff_eq, decide_eq_true_eq]
  exact ⟨fun h => by cases s; cases t; simp at h; rw [h], fun h => by rw [h]⟩
def idxF {α : Type} (p : α → Bool) : List α → Nat → Int
  | [], _ => -1
  | x :: xs, k => if p x then (k : Int) else idxF p xs (k + 1)
def isD (s : ByteArray) (d : Da) : Bool := decide (d.name = s)
def isC (s : ByteArray) (c : Co) : Bool := decide (c.name = s)
def findD (ds : List Da) (s : ByteArray) : Int := idxF (isD s) ds 0
def findC (cs : List Co) (s : ByteArray) : Int := idxF (isC s) cs 0
def conD (s : ByteArray) : List Da → Nat → Int × Int × Bool
  | [], _ => (0, 0, false)
  | d :: ds, k => if findC d.cons s ≥ 0 then ((k : Int), findC d.cons s, true) else conD s ds (k + 1)
theorem index_d (ds : List Da) (s : ByteArray) (hl : ds.length ≤ 4611686018427387904) : PCalls Try.prog 28 [.sl (ds.map daP), .fn 29 [.ept [.con (.string s)] 0]] (fun r => r = .con (.int .i64 (findD ds s))) := by
  refine a28k _ _ _ ?_
  unfold p28k
  rw [List.length_map]
  refine ⟨fun c v => ∃ j : Nat, j ≤ ds.length ∧ c = ds.length - j ∧ v.1 = (j : Int) ∧ idxF (isD s) (ds.drop j) j = findD ds s, ⟨_, 0, Nat.zero_le _, rfl, rfl, rfl⟩, ?_⟩
  rintro c ⟨i, u⟩ ⟨j, hj, rfl, hi, hL⟩
  dsimp only at hi ⊢
  subst hi
  refine br_i (fun hlt => ?_) (fun hge => ?_)
  · have hlt : j < ds.length := by simpa using hlt
    have hx := daP_cons ds j hlt
    rw [List.drop_eq_getElem_cons hlt, idxF] at hL
    have hc : PCalls Try.prog 29 [.agg (daP ds[j]), .ept [.con (.string s)] 0] (fun r => r = .con (.bool (isD s ds[j]))) := by
      refine a29 _ _ _ _ _ _ ?_
      unfold p29
      exact ⟨by rw [beq_str]; rfl, rfl⟩
    refine ⟨_, _, _, _, ⟨by omega, by rw [Int.toNat_natCast]; exact hx, ?_⟩⟩
    refine ⟨_, call_p (enters_of Try.func29 (by kernel_rfl) rfl) hc rfl ?_⟩
    refine br_i (fun hb => ⟨?_, rfl⟩) (fun hb => ⟨⟨rfl, rfl, rfl, trivial⟩, rfl, ds.length - (j + 1), by omega, j + 1, by omega, rfl, ?_, ?_⟩)
    · rw [if_pos hb] at hL; rw [← hL]
    · rw [wrap_id (by omega) (by omega)]; simp
    · rw [if_neg (by rw [hb]; exact Bool.false_ne_true)] at hL; exact hL
  · have hge : ¬ j < ds.length := by simpa using hge
    rw [List.drop_of_length_le (by omega), idxF] at hL
    exact ⟨by rw [← hL], rfl⟩
theorem index_c (ds : List Co) (s : ByteArray) (hl : ds.length ≤ 4611686018427387904) : PCalls Try.prog 23 [.sl (ds.map coP), .fn 24 [.ept [.con (.string s)] 0]] (fun r => r = .con (.int .i64 (findC ds s))) := by
  refine a23k _ _ _ ?_
  unfold p23k
  rw [List.length_map]
  refine ⟨fun c v => ∃ j : Nat, j ≤ ds.length ∧ c = ds.length - j ∧ v.1 = (j : Int) ∧ idxF (isC s) (ds.drop j) j = findC ds s, ⟨_, 0, Nat.zero_le _, rfl, rfl, rfl⟩, ?_⟩
  rintro c ⟨i, u⟩ ⟨j, hj, rfl, hi, hL⟩
  dsimp only at hi ⊢
  subst hi
  refine br_i (fun hlt => ?_) (fun hge => ?_)
  · have hlt : j < ds.length := by simpa using hlt
    have hx := coP_cons ds j hlt
    rw [List.drop_eq_getElem_cons hlt, idxF] at hL
    have hc : PCalls Try.prog 24 [.agg (coP ds[j]), .ept [.con (.string s)] 0] (fun r => r = .con (.bool (isC s ds[j]))) := by
      refine a24 _ _ _ _ ?_
      unfold p24
      exact ⟨by rw [beq_str]; rfl, rfl⟩
    refine ⟨_, _, ⟨by omega, by rw [Int.toNat_natCast]; exact hx, ?_⟩⟩
    refine ⟨_, call_p (enters_of Try.func24 (by kernel_rfl) rfl) hc rfl ?_⟩
    refine br_i (fun hb => ⟨?_, rfl⟩) (fun hb => ⟨⟨rfl, rfl, rfl, trivial⟩, rfl, ds.length - (j + 1), by omega, j + 1, by omega, rfl, ?_, ?_⟩)
    · rw [if_pos hb] at hL; rw [← hL]
    · rw [wrap_id (by omega) (by omega)]; simp
    · rw [if_neg (by rw [hb]; exact Bool.false_ne_true)] at hL; exact hL
  · have hge : ¬ j < ds.length := by simpa using hge
    rw [List.drop_of_length_le (by omega), idxF] at hL
    exact ⟨by rw [← hL], rfl⟩
theorem find_p (ds : List Da) (s : ByteArray) (hl : ds.length ≤ 4611686018427387904) : PCalls Try.prog 15 [.sl (ds.map daP), .con (.string s)] (fun r => r = .con (.int .i64 (findD ds s))) := by
  refine a15 _ _ _ ?_
  unfold p15
  exact ⟨_, call_p (enters_of Try.func28 (by kernel_rfl) rfl) (index_d ds s hl) rfl ⟨rfl, rfl⟩⟩
def conP3 (r : Int × Int × Bool) : PV := .tup [.con (.int .i64 r.1), .con (.int .i64 r.2.1), .con (.bool r.2.2)]
theorem con_p (ds : List Da) (s : ByteArray) (hl : ds.length ≤ 4611686018427387904) (hc : ∀ d ∈ ds, d.cons.length ≤ 4611686018427387904) : PCalls Try.prog 10 [.sl (ds.map daP), .con (.string s)] (fun r => r = conP3 (conD s ds 0)) := by
  refine a10 _ _ _ ?_
  unfold p10
  rw [List.length_map]
  refine ⟨fun c v => ∃ j : Nat, j ≤ ds.length ∧ c = ds.length - j ∧ v.1 = (j : Int) ∧ conD s (ds.drop j) j = conD s ds 0, ⟨_, 0, Nat.zero_le _, rfl, rfl, rfl⟩, ?_⟩
  rintro c ⟨i, u⟩ ⟨j, hj, rfl, hi, hL⟩
  dsimp only at hi ⊢
  subst hi
  refine br_i (fun hlt => ?_) (fun hge => ?_)
  · have hlt : j < ds.length := by simpa using hlt
    have hx := daP_cons ds j hlt
    rw [List.drop_eq_getElem_cons hlt, conD] at hL
    have hi := index_c ds[j].cons s (hc _ (List.getElem_mem hlt))
    refine ⟨_, _, _, _, ⟨by omega, by rw [Int.toNat_natCast]; exact hx, ?_⟩⟩
    refine ⟨_, call_p (enters_of Try.func23 (by kernel_rfl) rfl) hi rfl ?_⟩
    refine br_i (fun hb => ⟨?_, rfl⟩) (fun hb => ⟨⟨rfl, rfl, rfl, trivial⟩, rfl, ds.length - (j + 1), by omega, j + 1, by omega, rfl, ?_, ?_⟩)
    · rw [if_pos (by simpa using hb)] at hL; rw [← hL]; rfl
    · rw [wrap_id (by omega) (by omega)]; simp
    · rw [if_neg (by simpa using hb)] at hL; exact hL
  · have hge : ¬ j < ds.length := by simpa using hge
    rw [List.drop_of_length_le (by omega), conD] at hL
    exact ⟨by rw [← hL]; rfl, rfl⟩
end Go.Proofs.Ytgkagelejoknmaa.Deep

namespace Go.Proofs.Ytgkagelejoknmaa.Deep
open Go.RowKit
set_option linter.unusedVariables false
set_option linter.unusedSimpArgs false
abbrev okQ : PV → Heap → Prop := fun r _ => r = .con (.bool true) ∧ r.under 0 = true
theorem few_len {ds : List Da} (h : lightB ds = true) : ds.length ≤ 4611686018427387904 ∧ ∀ x ∈ ds, x.cons.length ≤ 4611686018427387904 := by
  obtain ⟨h1, h2⟩ := lightB_few h
  exact ⟨by omega, fun x hx => by have := (h2 x hx).2.1; omega⟩
end Go.Proofs.Ytgkagelejoknmaa.Deep

namespace Go.Proofs.Ytgkagelejoknmaa.Deep
open Go.RowKit
set_option linter.unusedVariables false
set_option linter.unusedSimpArgs false
theorem rfind_p (ds : List Da) (s : ByteArray) (hl : ds.length ≤ 4611686018427387904) : PCalls Try.prog 16 [.sl (ds.map daP), .con (.string s)] (fun r => r = .con (.int .i64 (findD ds s))) := by
  refine a16 _ _ _ ?_
  unfold p16
  rw [List.length_map]
  refine ⟨fun c v => ∃ j : Nat, j ≤ ds.length ∧ c = ds.length - j ∧ v.1 = (j : Int) ∧ idxF (isD s) (ds.drop j) j = findD ds s, ⟨_, 0, Nat.zero_le _, rfl, rfl, rfl⟩, ?_⟩
  rintro c ⟨i, u⟩ ⟨j, hj, rfl, hi, hL⟩
  dsimp only at hi ⊢
  subst hi
  refine br_i (fun hlt => ?_) (fun hge => ?_)
  · have hlt : j < ds.length := by simpa using hlt
    have hx := daP_cons ds j hlt
    rw [List.drop_eq_getElem_cons hlt, idxF] at hL
    refine ⟨_, _, _, _, ⟨by omega, by rw [Int.toNat_natCast]; exact hx, ?_⟩⟩
    rw [beq_str]
    refine br_i (fun hb => ⟨?_, rfl⟩) (fun hb => ⟨⟨rfl, rfl, trivial⟩, rfl, ds.length - (j + 1), by omega, j + 1, by omega, rfl, ?_, ?_⟩)
    · rw [if_pos (show isD s ds[j] = true from hb)] at hL; rw [← hL]
    · rw [wrap_id (by omega) (by omega)]; simp
    · rw [if_neg (by rw [show isD s ds[j] = false from hb]; exact Bool.false_ne_true)] at hL; exact hL
  · have hge : ¬ j < ds.length := by simpa using hge
    rw [List.drop_of_length_le (by omega), idxF] at hL
    exact ⟨by rw [← hL], rfl⟩
theorem rcon_p (ds : List Da) (s : ByteArray) (hl : ds.length ≤ 4611686018427387904) (hc : ∀ d ∈ ds, d.cons.length ≤ 4611686018427387904) : PCalls Try.prog 11 [.sl (ds.map daP), .con (.string s)] (fun r => r = conP3 (conD s ds 0)) := by
  refine a11 _ _ _ ?_
  unfold p11
  rw [List.length_map]
  refine ⟨fun c v => ∃ j : Nat, j ≤ ds.length ∧ c = ds.length - j ∧ v.1 = (j : Int) ∧ conD s (ds.drop j) j = conD s ds 0, ⟨_, 0, Nat.zero_le _, rfl, rfl, rfl⟩, ?_⟩
  rintro c ⟨i, u⟩ ⟨j, hj, rfl, hi, hL⟩
  dsimp only at hi ⊢
  subst hi
  refine br_i (fun hlt => ?_) (fun hge => ?_)
  · have hlt : j < ds.length := by simpa using hlt
    have hx := daP_cons ds j hlt
    have hcl := hc ds[j] (List.getElem_mem hlt)
    rw [List.drop_eq_getElem_cons hlt, conD] at hL
    generalize ds[j] = d at hx hL hcl
    obtain ⟨dl, dc, dn, cs⟩ := d
    dsimp only at hx hL hcl
    refine ⟨fun c v => ∃ k : Nat, k ≤ cs.length ∧ c = cs.length - k ∧ v.1 = (k : Int) ∧ idxF (isC s) (cs.drop k) k = findC cs s, ⟨_, 0, Nat.zero_le _, rfl, rfl, rfl⟩, ?_⟩
    rintro c ⟨i, u2⟩ ⟨k, hk, rfl, hi, hLk⟩
    dsimp only at hi ⊢
    subst hi
    refine ⟨_, _, _, _, ⟨by omega, by rw [Int.toNat_natCast]; exact hx, ?_⟩⟩
    rw [List.length_map]
    refine br_i (fun hlt2 => ?_) (fun hge2 => ?_)
    · have hlt2 : k < cs.length := by simpa using hlt2
      have hy := coP_cons cs k hlt2
      rw [List.drop_eq_getElem_cons hlt2, idxF] at hLk
      refine ⟨_, _, _, _, ⟨by omega, by rw [Int.toNat_natCast]; exact hx, ?_⟩⟩
      refine ⟨_, _, ⟨by omega, by rw [Int.toNat_natCast]; exact hy, ?_⟩⟩
      rw [beq_str]
      refine br_i (fun hb => ⟨?_, rfl⟩) (fun hb => ⟨⟨rfl, rfl, rfl, trivial⟩, rfl, cs.length - (k + 1), by omega, k + 1, by omega, rfl, ?_, ?_⟩)
      · rw [if_pos (show isC s cs[k] = true from hb)] at hLk
        rw [← hLk, if_pos (by omega)] at hL
        rw [← hL]; rfl
      · rw [wrap_id (by omega) (by omega)]; simp
      · rw [if_neg (by rw [show isC s cs[k] = false from hb]; exact Bool.false_ne_true)] at hLk; exact hLk
    · have hge2 : ¬ k < cs.length := by simpa using hge2
      rw [List.drop_of_length_le (by omega), idxF] at hLk
      rw [← hLk, if_neg (by omega)] at hL
      refine ⟨⟨rfl, rfl, trivial⟩, rfl, ds.length - (j + 1), by omega, j + 1, by omega, rfl, ?_, hL⟩
      rw [wrap_id (by omega) (by omega)]; simp
  · have hge : ¬ j < ds.length := by simpa using hge
    rw [List.drop_of_length_le (by omega), conD] at hL
    exact ⟨by rw [← hL]; rfl, rfl⟩
def key (s : ByteArray) : Lit := .string s.data.toList
theorem key_inj {s t : ByteArray} (h : key s = key t) : s = t := by
  unfold key at h
  injection h with h
  cases s; cases t
  congr 1
  exact Array.ext' h
theorem key_lit (s : ByteArray) : WideAt.IsKeyLit (key s) := by unfold key WideAt.IsKeyLit; trivial
def numL (i : Int) : DataW Unit := .lit (.int .i64 i)
def NumD (D : DataW Unit) (ds : List Da) : Prop := Maps.IsMap D ∧ ∀ s, Maps.has D (key s) = decide (0 ≤ findD ds s) ∧ D.atKey (key s) (numL 0) = numL (if 0 ≤ findD ds s then findD ds s else 0)
def numsF : List Da → Nat → Nat × DataW Unit → Nat × DataW Unit
  | [], _, x => x
  | d :: ds, k, x => numsF ds (k + 1) (if Maps.has x.2 (key d.name) = true then x else (x.1 + 1, x.2.put (key d.name) (numL k)))
def nums (ds : List Da) : Nat × DataW Unit := numsF ds 0 (0, .map [])
theorem idxF_snoc {α : Type} (p : α → Bool) (x : α) : ∀ (l : List α) (k : Nat), idxF p (l ++ [x]) k = if 0 ≤ idxF p l k then idxF p l k else if p x then ((k + l.length : Nat) : Int) else -1
  | [], k => by simp [idxF]
  | y :: l, k => by
    simp only [List.cons_append, idxF]
    split
    · rw [if_pos (by omega)]
    · rw [idxF_snoc p x l (k + 1)]
      simp only [List.length_cons]
      rw [show k + 1 + l.length = k + (l.length + 1) by omega]
theorem findD_snoc (ds : List Da) (d : Da) (s : ByteArray) : findD (ds ++ [d]) s = if 0 ≤ findD ds s then findD ds s else if d.name = s then (ds.length : Int) else -1 := by
  unfold findD
  rw [idxF_snoc]
  simp [isD]
theorem NumD.empty : NumD (.map []) [] := ⟨Maps.isMap_empty, fun s => ⟨rfl, rfl⟩⟩
theorem NumD.snoc {D : DataW Unit} {ds : List Da} (h : NumD D ds) (d : Da) : NumD (if Maps.has D (key d.name) = true then D else D.put (key d.name) (numL ds.length)) (ds ++ [d]) := by
  obtain ⟨h1, h2⟩ := h
  by_cases hh : Maps.has D (key d.name) = true
  · rw [if_pos hh]
    refine ⟨h1, fun s => ?_⟩
    obtain ⟨q1, q2⟩ := h2 s
    rw [findD_snoc]
    by_cases hs : 0 ≤ findD ds s
    · simp only [if_pos hs] at q2 ⊢; exact ⟨q1, q2⟩
    · have hne : d.name ≠ s := fun he => by
        rw [he, q1] at hh
        exact hs (of_decide_eq_true hh)
      simp only [if_neg hs, if_neg hne] at q2 ⊢
      rw [if_neg (by omega)]
      refine ⟨?_, q2⟩
      rw [q1, decide_eq_false hs]; rfl
  · rw [if_neg hh]
    refine ⟨h1.put _ _, fun s => ?_⟩
    obtain ⟨q1, q2⟩ := h2 s
    rw [findD_snoc]
    by_cases he : d.name = s
    · subst he
      have hs : ¬ 0 ≤ findD ds d.name := fun hs => hh (by rw [q1]; exact decide_eq_true hs)
      simp only [if_neg hs, if_true]
      rw [if_pos (by omega)]
      exact ⟨by rw [Maps.has_put_same h1 (key_lit _), decide_eq_true (by omega)], Maps.atKey_put_same h1 (key_lit _) _ _⟩
    · have hk : key s ≠ key d.name := fun hk => he (key_inj hk).symm
      rw [Maps.has_put_other hk, Maps.atKey_put_other hk, if_neg he]
      by_cases hs : 0 ≤ findD ds s
      · simp only [if_pos hs] at q2 ⊢; exact ⟨q1, q2⟩
      · simp only [if_neg hs] at q2 ⊢
        rw [if_neg (by omega)]
        refine ⟨?_, q2⟩
        rw [q1, decide_eq_false hs]; rfl
theorem numsF_num : ∀ (ds pre : List Da) (x : Nat × DataW Unit), NumD x.2 pre → NumD (numsF ds pre.length x).2 (pre ++ ds)
  | [], pre, x, h => by simpa [numsF] using h
  | d :: ds, pre, x, h => by
    have := numsF_num ds (pre ++ [d]) (if Maps.has x.2 (key d.name) = true then x else (x.1 + 1, x.2.put (key d.name) (numL pre.length))) (by
      have := h.snoc d
      split
      · rename_i hh; rwa [if_pos hh] at this
      · rename_i hh; rwa [if_neg hh] at this)
    rw [numsF]
    simpa using this
theorem nums_num (ds : List Da) : NumD (nums ds).2 ds := by
  have := numsF_num ds [] (0, .map []) NumD.empty
  simpa [nums] using this
theorem lit_ok {n : Int} (h1 : -9223372036854775808 ≤ n) (h2 : n ≤ 9223372036854775807) : (Lit.int .i64 n).wf = true := by
  simp only [Lit.wf, Bool.and_eq_true, decide_eq_true_eq]
  exact ⟨h1, h2⟩
abbrev mpB (n : Nat) (D : DataW Unit) : Heap := [[.mpc 9 3 n D]]
theorem numbers_c (ds : List Da) (hl : ds.length ≤ 4611686018427387904) (hn : ∀ d ∈ ds, d.name.size ≤ 3000) : ACalls Try.prog 30 [.sl (ds.map daP)] [] (fun r h => r = .mp 0 ∧ h = mpB (nums ds).1 (nums ds).2) := by
  refine a30 _ _ ?_
  unfold p30
  rw [List.length_map]
  refine ⟨fun c v => ∃ j : Nat, j ≤ ds.length ∧ c = ds.length - j ∧ v.1 = (j : Int) ∧ numsF (ds.drop j) j v.2.1 = nums ds ∧ v.2.1.1 ≤ j ∧ NumD v.2.1.2 (ds.take j), ⟨_, 0, Nat.zero_le _, rfl, rfl, rfl, Nat.le_refl _, NumD.empty⟩, ?_⟩
  rintro c ⟨i, ⟨n, D⟩, u⟩ ⟨j, hj, rfl, hi, hL, hnj, hD⟩
  dsimp only at hi hL hnj hD ⊢
  subst hi
  refine br_i (fun hlt => ?_) (fun hge => ?_)
  · have hlt : j < ds.length := by simpa using hlt
    have hx := daP_cons ds j hlt
    have hns := hn _ (List.getElem_mem hlt)
    obtain ⟨q1, q2⟩ := hD.2 ds[j].name
    have hD2 := hD.snoc ds[j]
    rw [List.length_take, show min j ds.length = j by omega, ← List.take_succ_eq_append_getElem hlt] at hD2
    rw [List.drop_eq_getElem_cons hlt, numsF] at hL
    dsimp only at hL
    refine ⟨_, _, _, _, ⟨by omega, by rw [Int.toNat_natCast]; exact hx, ?_⟩⟩
    refine ⟨_, _, ⟨by unfold maxLen; omega, q2, rfl, ?_⟩⟩
    change br (!(Maps.has D (key ds[j].name))) _ _
    refine br_i (fun hb => ?_) (fun hb => ?_)
    · have hb : Maps.has D (key ds[j].name) = false := le_not hb
      rw [hb] at hL hD2
      simp only [Bool.false_eq_true, if_false] at hL hD2
      refine ⟨by unfold maxLen; omega, by unfold maxLen; omega, lit_ok (by omega) (by omega), ⟨⟨rfl, rfl, rfl, trivial⟩, rfl, ds.length - (j + 1), by omega, j + 1, by omega, rfl, ?_, hL, by omega, hD2⟩⟩
      rw [wrap_id (by omega) (by omega)]; simp
    · have hb : Maps.has D (key ds[j].name) = true := le_yes hb
      rw [hb] at hL hD2
      simp only [if_true] at hL hD2
      refine ⟨⟨rfl, rfl, rfl, trivial⟩, rfl, ds.length - (j + 1), by omega, j + 1, by omega, rfl, ?_, hL, by omega, hD2⟩
      rw [wrap_id (by omega) (by omega)]; simp
  · have hge : ¬ j < ds.length := by simpa using hge
    rw [List.drop_of_length_le (by omega), numsF] at hL
    exact ⟨rfl, by rw [← hL]⟩
end Go.Proofs.Ytgkagelejoknmaa.Deep

namespace Go.Proofs.Ytgkagelejoknmaa.Deep
open Go.RowKit
set_option linter.unusedVariables false
set_option linter.unusedSimpArgs false
mutual
def knownT (ds : List Da) : Ty → Bool
  | .mk k n ps => (if k = 2 then decide (0 ≤ findD ds n) else true) && knownTs ds ps
def knownTs (ds : List Da) : List Ty → Bool
  | [] => true
  | t :: ts => knownT ds t && knownTs ds ts
end
theorem smallTys_at : ∀ (ps : List Ty), smallTys ps → ∀ i (h : i < ps.length), smallTy ps[i]
  | t :: ts, hs, 0, _ => by unfold smallTys at hs; exact hs.1
  | t :: ts, hs, i + 1, h => by unfold smallTys at hs; simpa using smallTys_at ts hs.2 i (by simpa using h)
theorem know_all {ds : List Da} {n : Nat} {D : DataW Unit} (ps : List Ty) (hl : ps.length ≤ 3000) (ih : ∀ i (h : i < ps.length), ACalls Try.prog 31 [.mp 0, .agg (tyP ps[i])] (mpB n D) (fun r h => r = .con (.bool (knownT ds ps[i])) ∧ h = mpB n D)) :
    ACalls Try.prog 41 [.mp 0, .sl (tyPs ps)] (mpB n D) (fun r h => r = .con (.bool (knownTs ds ps)) ∧ h = mpB n D) := by
  refine a41 _ _ _ _ ?_
  unfold p41
  rw [tyPs_len]
  refine ⟨fun c v => ∃ j : Nat, j ≤ ps.length ∧ c = ps.length - j ∧ v.1 = (j : Int) ∧ knownTs ds (ps.drop j) = knownTs ds ps, ⟨_, 0, Nat.zero_le _, rfl, rfl, rfl⟩, ?_⟩
  rintro c ⟨i, u⟩ ⟨j, hj, rfl, hi, hL⟩
  dsimp only at hi ⊢
  subst hi
  refine br_i (fun hlt => ?_) (fun hge => ?_)
  · have hlt : j < ps.length := by simpa using hlt
    rw [List.drop_eq_getElem_cons hlt, knownTs] at hL
    have hx := tyPs_get ps j hlt
    have hc := ih j hlt
    obtain ⟨k', n', ps', hp⟩ := ty_mk ps[j]
    rw [hp] at hx hc hL
    refine ⟨_, _, _, ⟨by omega, by rw [Int.toNat_natCast]; exact hx, ?_⟩⟩
    refine ⟨_, ⟨enters_of Try.func31 (by kernel_rfl) rfl, hc, ?_⟩⟩
    refine br_i (fun hb => ?_) (fun hb => ?_)
    · rw [le_not hb] at hL
      exact ⟨by rw [← hL]; rfl, rfl⟩
    · rw [le_yes hb, Bool.true_and] at hL
      refine ⟨⟨rfl, rfl, rfl, trivial⟩, rfl, ps.length - (j + 1), by omega, j + 1, by omega, rfl, ?_, hL⟩
      rw [wrap_id (by omega) (by omega)]; simp
  · have hge : ¬ j < ps.length := by simpa using hge
    rw [List.drop_of_length_le (by omega), knownTs] at hL
    exact ⟨by rw [← hL], rfl⟩
theorem know_c {ds : List Da} {n : Nat} {D : DataW Unit} (hD : NumD D ds) (t : Ty) : smallTy t → ACalls Try.prog 31 [.mp 0, .agg (tyP t)] (mpB n D) (fun r h => r = .con (.bool (knownT ds t)) ∧ h = mpB n D) := by
  induction t using Ty.ind with
  | h k s ps ih =>
  intro hs
  unfold smallTy at hs
  obtain ⟨h1, h2, h3⟩ := hs
  have hall := know_all (ds := ds) (n := n) (D := D) ps h2 (fun i h => ih i h (smallTys_at ps h3 i h))
  obtain ⟨q1, q2⟩ := hD.2 s
  refine a31 _ _ _ _ _ _ ?_
  unfold p31
  refine br_i (fun hk => ?_) (fun hk => ?_)
  · have hk : k = 2 := by simpa using hk
    refine ⟨_, _, ⟨by unfold maxLen; omega, q2, rfl, ?_⟩⟩
    change br (!(Maps.has D (key s))) _ _
    rw [q1]
    refine br_i (fun hb => ?_) (fun hb => ?_)
    · exact ⟨by rw [knownT, if_pos hk, le_not hb]; rfl, rfl⟩
    · refine ⟨_, ⟨enters_of Try.func41 (by kernel_rfl) rfl, hall, ?_⟩⟩
      exact ⟨by rw [knownT, if_pos hk, le_yes hb, Bool.true_and], rfl⟩
  · have hk : ¬ k = 2 := by simpa using hk
    refine ⟨_, ⟨enters_of Try.func41 (by kernel_rfl) rfl, hall, ?_⟩⟩
    exact ⟨by rw [knownT, if_neg hk, Bool.true_and], rfl⟩
theorem known_p (ds : List Da) (t : Ty) (hl : ds.length ≤ 4611686018427387904) (hn : ∀ d ∈ ds, d.name.size ≤ 3000) (hs : smallTy t) : PCalls Try.prog 17 [.sl (ds.map daP), .agg (tyP t)] (fun r => r = .con (.bool (knownT ds t))) := by
  have h2 := know_c (n := (nums ds).1) (nums_num ds) t hs
  obtain ⟨k', n', ps', hp⟩ := ty_mk t
  rw [hp] at h2 ⊢
  refine a17 _ _ _ _ _ ?_
  unfold p17
  refine ⟨_, _, ⟨enters_of Try.func30 (by kernel_rfl) rfl, numbers_c ds hl hn, ?_⟩⟩
  exact ⟨_, ⟨enters_of Try.func31 (by kernel_rfl) rfl, h2, rfl, rfl⟩⟩
theorem rknown_p (ds : List Da) (hl : ds.length ≤ 4611686018427387904) (t : Ty) : smallTy t → PCalls Try.prog 18 [.sl (ds.map daP), .agg (tyP t)] (fun r => r = .con (.bool (knownT ds t))) := by
  induction t using Ty.ind with
  | h k s ps ih =>
  intro hs
  unfold smallTy at hs
  obtain ⟨h1, h2, h3⟩ := hs
  refine a18 _ _ _ _ _ ?_
  unfold p18
  rw [tyPs_len]
  have loop : ∀ (B : Bool) (I : Nat → (Int × Unit) → Prop), True := fun _ _ => trivial
  refine br_i (fun hk => ?_) (fun hk => ?_)
  · have hk : k = 2 := by simpa using hk
    refine ⟨_, call_p (enters_of Try.func16 (by kernel_rfl) rfl) (rfind_p ds s hl) rfl ?_⟩
    refine br_i (fun hf => ?_) (fun hf => ?_)
    · have hf : findD ds s < 0 := of_decide_eq_true hf
      exact ⟨by rw [knownT, if_pos hk, decide_eq_false (by omega)]; rfl, rfl⟩
    have hf : ¬ findD ds s < 0 := by simpa using hf
    have hV : knownT ds (.mk k s ps) = knownTs ds ps := by rw [knownT, if_pos hk, decide_eq_true (by omega), Bool.true_and]
    rw [hV]
    refine ⟨fun c v => ∃ j : Nat, j ≤ ps.length ∧ c = ps.length - j ∧ v.1 = (j : Int) ∧ knownTs ds (ps.drop j) = knownTs ds ps, ⟨_, 0, Nat.zero_le _, rfl, rfl, rfl⟩, ?_⟩
    rintro c ⟨i, u⟩ ⟨j, hj, rfl, hi, hL⟩
    dsimp only at hi ⊢
    subst hi
    refine br_i (fun hlt => ?_) (fun hge => ?_)
    · have hlt : j < ps.length := by simpa using hlt
      rw [List.drop_eq_getElem_cons hlt, knownTs] at hL
      have hx := tyPs_get ps j hlt
      have hc := ih j hlt (smallTys_at ps h3 j hlt)
      obtain ⟨k', n', ps', hp⟩ := ty_mk ps[j]
      rw [hp] at hx hc hL
      refine ⟨_, _, _, ⟨by omega, by rw [Int.toNat_natCast]; exact hx, ?_⟩⟩
      refine ⟨_, call_p (enters_of Try.func18 (by kernel_rfl) rfl) hc rfl ?_⟩
      refine br_i (fun hb => ?_) (fun hb => ?_)
      · rw [le_not hb] at hL
        exact ⟨by rw [← hL]; rfl, rfl⟩
      · rw [le_yes hb, Bool.true_and] at hL
        refine ⟨⟨rfl, rfl, trivial⟩, rfl, ps.length - (j + 1), by omega, j + 1, by omega, rfl, ?_, hL⟩
        rw [wrap_id (by omega) (by omega)]; simp
    · have hge : ¬ j < ps.length := by simpa using hge
      rw [List.drop_of_length_le (by omega), knownTs] at hL
      exact ⟨by rw [← hL], rfl⟩
  · have hk : ¬ k = 2 := by simpa using hk
    have hV : knownT ds (.mk k s ps) = knownTs ds ps := by rw [knownT, if_neg hk, Bool.true_and]
    rw [hV]
    refine ⟨fun c v => ∃ j : Nat, j ≤ ps.length ∧ c = ps.length - j ∧ v.1 = (j : Int) ∧ knownTs ds (ps.drop j) = knownTs ds ps, ⟨_, 0, Nat.zero_le _, rfl, rfl, rfl⟩, ?_⟩
    rintro c ⟨i, u⟩ ⟨j, hj, rfl, hi, hL⟩
    dsimp only at hi ⊢
    subst hi
    refine br_i (fun hlt => ?_) (fun hge => ?_)
    · have hlt : j < ps.length := by simpa using hlt
      rw [List.drop_eq_getElem_cons hlt, knownTs] at hL
      have hx := tyPs_get ps j hlt
      have hc := ih j hlt (smallTys_at ps h3 j hlt)
      obtain ⟨k', n', ps', hp⟩ := ty_mk ps[j]
      rw [hp] at hx hc hL
      refine ⟨_, _, _, ⟨by omega, by rw [Int.toNat_natCast]; exact hx, ?_⟩⟩
      refine ⟨_, call_p (enters_of Try.func18 (by kernel_rfl) rfl) hc rfl ?_⟩
      refine br_i (fun hb => ?_) (fun hb => ?_)
      · rw [le_not hb] at hL
        exact ⟨by rw [← hL]; rfl, rfl⟩
      · rw [le_yes hb, Bool.true_and] at hL
        refine ⟨⟨rfl, rfl, trivial⟩, rfl, ps.length - (j + 1), by omega, j + 1, by omega, rfl, ?_, hL⟩
        rw [wrap_id (by omega) (by omega)]; simp
    · have hge : ¬ j < ps.length := by simpa using hge
      rw [List.drop_of_length_le (by omega), knownTs] at hL
      exact ⟨by rw [← hL], rfl⟩
mutual
def sameT : Ty → Ty → Bool
  | .mk k n ps, .mk k' n' ps' => decide (k = k') && (decide (n = n') && sameTs ps ps')
def sameTs : List Ty → List Ty → Bool
  | [], [] => true
  | t :: ts, u :: us => sameT t u && sameTs ts us
  | [], _ :: _ => false
  | _ :: _, [] => false
end
theorem sameTs_len : ∀ (ps qs : List Ty), ps.length ≠ qs.length → sameTs ps qs = false
  | [], [], h => absurd rfl h
  | [], _ :: _, _ => by rw [sameTs]
  | _ :: _, [], _ => by rw [sameTs]
  | p :: ps, q :: qs, h => by rw [sameTs, sameTs_len ps qs (by simpa using h), Bool.and_false]
mutual
theorem sameT_self : ∀ t : Ty, sameT t t = true
  | .mk k n ps => by rw [sameT, sameTs_self ps]; simp
theorem sameTs_self : ∀ ts : List Ty, sameTs ts ts = true
  | [] => by rw [sameTs]
  | t :: ts => by rw [sameTs, sameT_self t, sameTs_self ts]; rfl
end
theorem len_ne (a b : Nat) : (((a : Int) : Int) != (b : Int)) = !decide (a = b) := by
  rw [Bool.eq_iff_iff]; simp; omega
theorem equal_p (ps qs : List Ty) (hl : ps.length ≤ 3000) (ih : ∀ i (h : i < ps.length) (u : Ty), smallTy u → PCalls Try.prog 19 [.agg (tyP ps[i]), .agg (tyP u)] (fun r => r = .con (.bool (sameT ps[i] u)))) (hq : smallTys qs) : PCalls Try.prog 32 [.sl (tyPs ps), .sl (tyPs qs), .fn 19 []] (fun r => r = .con (.bool (sameTs ps qs))) := by
  refine a32k _ _ _ ?_
  unfold p32k
  rw [tyPs_len, tyPs_len, len_ne]
  refine br_i (fun hb => ?_) (fun hb => ?_)
  · have hb : ps.length ≠ qs.length := by simpa using hb
    exact ⟨by rw [sameTs_len ps qs hb], rfl⟩
  have hb : ps.length = qs.length := by simpa using hb
  refine ⟨fun c v => ∃ j : Nat, j ≤ ps.length ∧ c = ps.length - j ∧ v.1 = (j : Int) ∧ sameTs (ps.drop j) (qs.drop j) = sameTs ps qs, ⟨_, 0, Nat.zero_le _, rfl, rfl, rfl⟩, ?_⟩
  rintro c ⟨i, u⟩ ⟨j, hj, rfl, hi, hL⟩
  dsimp only at hi ⊢
  subst hi
  refine br_i (fun hlt => ?_) (fun hge => ?_)
  · have hlt : j < ps.length := by simpa using hlt
    have hlt2 : j < qs.length := by omega
    rw [List.drop_eq_getElem_cons hlt, List.drop_eq_getElem_cons hlt2, sameTs] at hL
    have hx := tyPs_get ps j hlt
    have hy := tyPs_get qs j hlt2
    have hc := ih j hlt qs[j] (smallTys_at qs hq j hlt2)
    obtain ⟨k', n', ps', hp⟩ := ty_mk ps[j]
    obtain ⟨k2, n2, ps2, hp2⟩ := ty_mk qs[j]
    rw [hp] at hx hc hL
    rw [hp2] at hy hc hL
    refine ⟨_, _, _, ⟨by omega, by rw [Int.toNat_natCast]; exact hx, ?_⟩⟩
    refine ⟨_, _, _, ⟨by omega, by rw [Int.toNat_natCast]; exact hy, ?_⟩⟩
    refine ⟨_, call_p (enters_of Try.func19 (by kernel_rfl) rfl) hc rfl ?_⟩
    refine br_i (fun hb => ?_) (fun hb => ?_)
    · rw [le_not hb] at hL
      exact ⟨by rw [← hL]; rfl, rfl⟩
    · rw [le_yes hb, Bool.true_and] at hL
      refine ⟨⟨rfl, rfl, rfl, rfl, trivial⟩, rfl, ps.length - (j + 1), by omega, j + 1, by omega, rfl, ?_, hL⟩
      rw [wrap_id (by omega) (by omega)]; simp
  · have hge : ¬ j < ps.length := by simpa using hge
    rw [show ps.drop j = [] from List.drop_of_length_le (by omega), show qs.drop j = [] from List.drop_of_length_le (by omega), sameTs] at hL
    exact ⟨by rw [← hL], rfl⟩
theorem int_eq (a b : Int) : (a == b) = decide (a = b) := by rw [Bool.eq_iff_iff]; simp
theorem int_ne (a b : Int) : (a != b) = !decide (a = b) := by rw [Bool.eq_iff_iff]; simp
theorem same_p (t : Ty) : ∀ u : Ty, smallTy t → smallTy u → PCalls Try.prog 19 [.agg (tyP t), .agg (tyP u)] (fun r => r = .con (.bool (sameT t u))) := by
  induction t using Ty.ind with
  | h k s ps ih =>
  intro u hs hu
  obtain ⟨k2, s2, qs⟩ := u
  unfold smallTy at hs hu
  have hcall := equal_p ps qs hs.2.1 (fun i h u hu => ih i h u (smallTys_at ps hs.2.2 i h) hu) hu.2.2
  refine a19 _ _ _ _ _ _ _ ?_
  unfold p19
  rw [int_eq, beq_str, sameT]
  refine br_i (fun h1 => ?_) (fun h1 => ⟨by rw [h1]; rfl, rfl⟩)
  refine br_i (fun h2 => ?_) (fun h2 => ⟨by rw [h1, h2]; rfl, rfl⟩)
  exact ⟨_, call_p (enters_of Try.func32 (by kernel_rfl) rfl) hcall rfl ⟨by rw [h1, h2]; rfl, rfl⟩⟩
theorem rsame_t (t : Ty) : ∀ u : Ty, smallTy t → PCalls Try.prog 33 [.agg (tyP t), .agg (tyP u)] (fun r => r = .con (.bool (sameT t u))) := by
  induction t using Ty.ind with
  | h k s ps ih =>
  intro u hs
  obtain ⟨k2, s2, qs⟩ := u
  unfold smallTy at hs
  refine a33 _ _ _ _ _ _ _ ?_
  unfold p33
  rw [int_ne, beq_str, sameT, tyPs_len, tyPs_len, len_ne]
  refine br_i (fun h1 => ⟨by rw [le_not h1]; rfl, rfl⟩) (fun h1 => ?_)
  refine br_i (fun h2 => ⟨by rw [le_yes h1, le_not h2]; rfl, rfl⟩) (fun h2 => ?_)
  rw [le_yes h1, le_yes h2, Bool.true_and, Bool.true_and]
  refine br_i (fun hb => ?_) (fun hb => ?_)
  · have hb : ps.length ≠ qs.length := by simpa using hb
    exact ⟨by rw [sameTs_len ps qs hb], rfl⟩
  have hb : ps.length = qs.length := by simpa using hb
  refine ⟨fun c v => ∃ j : Nat, j ≤ ps.length ∧ c = ps.length - j ∧ v.1 = (j : Int) ∧ sameTs (ps.drop j) (qs.drop j) = sameTs ps qs, ⟨_, 0, Nat.zero_le _, rfl, rfl, rfl⟩, ?_⟩
  rintro c ⟨i, u⟩ ⟨j, hj, rfl, hi, hL⟩
  dsimp only at hi ⊢
  subst hi
  refine br_i (fun hlt => ?_) (fun hge => ?_)
  · have hlt : j < ps.length := by simpa using hlt
    have hlt2 : j < qs.length := by omega
    rw [List.drop_eq_getElem_cons hlt, List.drop_eq_getElem_cons hlt2, sameTs] at hL
    have hx := tyPs_get ps j hlt
    have hy := tyPs_get qs j hlt2
    have hc := ih j hlt qs[j] (smallTys_at ps hs.2.2 j hlt)
    obtain ⟨k', n', ps', hp⟩ := ty_mk ps[j]
    obtain ⟨k2, n2, ps2, hp2⟩ := ty_mk qs[j]
    rw [hp] at hx hc hL
    rw [hp2] at hy hc hL
    refine ⟨_, _, _, ⟨by omega, by rw [Int.toNat_natCast]; exact hx, ?_⟩⟩
    refine ⟨_, _, _, ⟨by omega, by rw [Int.toNat_natCast]; exact hy, ?_⟩⟩
    refine ⟨_, call_p (enters_of Try.func33 (by kernel_rfl) rfl) hc rfl ?_⟩
    refine br_i (fun hb => ?_) (fun hb => ?_)
    · rw [le_not hb] at hL
      exact ⟨by rw [← hL]; rfl, rfl⟩
    · rw [le_yes hb, Bool.true_and] at hL
      refine ⟨⟨rfl, rfl, trivial⟩, rfl, ps.length - (j + 1), by omega, j + 1, by omega, rfl, ?_, hL⟩
      rw [wrap_id (by have := hs.2.1; omega) (by have := hs.2.1; omega)]; simp
  · have hge : ¬ j < ps.length := by simpa using hge
    rw [show ps.drop j = [] from List.drop_of_length_le (by omega), show qs.drop j = [] from List.drop_of_length_le (by omega), sameTs] at hL
    exact ⟨by rw [← hL], rfl⟩
theorem rsame_p (t u : Ty) (hs : smallTy t) : PCalls Try.prog 20 [.agg (tyP t), .agg (tyP u)] (fun r => r = .con (.bool (sameT t u))) := by
  have h := rsame_t t u hs
  obtain ⟨k', n', ps', hp⟩ := ty_mk t
  obtain ⟨k2, n2, ps2, hp2⟩ := ty_mk u
  subst hp hp2
  refine a20 _ _ _ _ _ _ _ ?_
  unfold p20
  exact ⟨_, call_p (enters_of Try.func33 (by kernel_rfl) rfl) h rfl ⟨rfl, rfl⟩⟩
end Go.Proofs.Ytgkagelejoknmaa.Deep

namespace Go.Proofs.Ytgkagelejoknmaa.Deep
open Go.RowKit
set_option linter.unusedVariables false
def p3 (l1 l2 : List (List PV)) (i3 i4 i5 : Int) (s6 : ByteArray) (l7 : List (List PV)) (i8 i9 i10 i11 i12 : Int) (l13 : List (List PV)) (s14 : ByteArray) (l15 l16 l17 l18 : List (List PV)) (i19 : Int) (s20 : ByteArray) (l21 : List (List PV)) (i22 : Int) (s23 : ByteArray) (l24 : List (List PV)) (s25 : ByteArray) (Q : PV → Heap → Prop) : Prop :=
∃ i26 : Int, CallN Try.prog 6 [(.agg [l1, l2, i3, i4, i5, s6, l7, i8, i9, i10, i11, i12, l13, s14, l15, l16, l17]), (.con (.int .i64 2000))] [[l1, l2, i3, i4, i5, s6, l7, i8, i9, i10, i11, i12, l13, s14, l15, l16, l17], [i19, s20, l21], [i22, s23, l24]] i26
  (br ((decide ((i26 : Int) < 0)))
  (∃ b27 : Bool, CallN Try.prog 9 [] [[l1, l2, i3, i4, i5, s6, l7, i8, i9, i10, i11, i12, l13, s14, l15, l16, l17], [i19, s20, l21], [i22, s23, l24]] b27
  (Q b27 [[l1, l2, i3, i4, i5, s6, l7, i8, i9, i10, i11, i12, l13, s14, l15, l16, l17], [i19, s20, l21], [i22, s23, l24]]))
  (∃ b28 : Bool, CallN Try.prog 7 [l18] [[l1, l2, i3, i4, i5, s6, l7, i8, i9, i10, i11, i12, l13, s14, l15, l16, l17], [i19, s20, l21], [i22, s23, l24]] b28
  (br ((!b28))
  (∃ b29 : Bool, CallN Try.prog 9 [] [[l1, l2, i3, i4, i5, s6, l7, i8, i9, i10, i11, i12, l13, s14, l15, l16, l17], [i19, s20, l21], [i22, s23, l24]] b29
  (Q b29 [[l1, l2, i3, i4, i5, s6, l7, i8, i9, i10, i11, i12, l13, s14, l15, l16, l17], [i19, s20, l21], [i22, s23, l24]]))
  (∃ i30 : Int, CallN Try.prog 8 [(.agg [i19, s20, l21]), (.con (.int .i64 2000))] [[l1, l2, i3, i4, i5, s6, l7, i8, i9, i10, i11, i12, l13, s14, l15, l16, l17], [i19, s20, l21], [i22, s23, l24]] i30
  (br ((decide ((i30 : Int) < 0)))
  (∃ b31 : Bool, CallN Try.prog 9 [] [[l1, l2, i3, i4, i5, s6, l7, i8, i9, i10, i11, i12, l13, s14, l15, l16, l17], [i19, s20, l21], [i22, s23, l24]] b31
  (Q b31 [[l1, l2, i3, i4, i5, s6, l7, i8, i9, i10, i11, i12, l13, s14, l15, l16, l17], [i19, s20, l21], [i22, s23, l24]]))
  (∃ i32 : Int, CallN Try.prog 8 [(.agg [i22, s23, l24]), (.con (.int .i64 2000))] [[l1, l2, i3, i4, i5, s6, l7, i8, i9, i10, i11, i12, l13, s14, l15, l16, l17], [i19, s20, l21], [i22, s23, l24]] i32
  (br ((decide ((i32 : Int) < 0)))
  (∃ b33 : Bool, CallN Try.prog 9 [] [[l1, l2, i3, i4, i5, s6, l7, i8, i9, i10, i11, i12, l13, s14, l15, l16, l17], [i19, s20, l21], [i22, s23, l24]] b33
  (Q b33 [[l1, l2, i3, i4, i5, s6, l7, i8, i9, i10, i11, i12, l13, s14, l15, l16, l17], [i19, s20, l21], [i22, s23, l24]]))
  (br ((decide (((ByteArray.size s25 : Int) : Int) > 300)))
  (∃ b34 : Bool, CallN Try.prog 9 [] [[l1, l2, i3, i4, i5, s6, l7, i8, i9, i10, i11, i12, l13, s14, l15, l16, l17], [i19, s20, l21], [i22, s23, l24]] b34
  (Q b34 [[l1, l2, i3, i4, i5, s6, l7, i8, i9, i10, i11, i12, l13, s14, l15, l16, l17], [i19, s20, l21], [i22, s23, l24]]))
  (∃ i35 : Int, ∃ i36 : Int, ∃ b37 : Bool, CallN Try.prog 10 [l18, s25] [[l1, l2, i3, i4, i5, s6, l7, i8, i9, i10, i11, i12, l13, s14, l15, l16, l17], [i19, s20, l21], [i22, s23, l24]] (.tup [i35, i36, b37])
  (∃ i38 : Int, ∃ i39 : Int, ∃ b40 : Bool, CallN Try.prog 11 [l18, s25] [[l1, l2, i3, i4, i5, s6, l7, i8, i9, i10, i11, i12, l13, s14, l15, l16, l17], [i19, s20, l21], [i22, s23, l24]] (.tup [i38, i39, b40])
  (∃ l41 : List (List PV), CallN Try.prog 13 [(.agg [l1, l2, i3, i4, i5, s6, l7, i8, i9, i10, i11, i12, l13, s14, l15, l16, l17])] [[l1, l2, i3, i4, i5, s6, l7, i8, i9, i10, i11, i12, l13, s14, l15, l16, l17], [i19, s20, l21], [i22, s23, l24]] l41
  (∃ l42 : List (List PV), CallN Try.prog 14 [(.agg [l1, l2, i3, i4, i5, s6, l7, i8, i9, i10, i11, i12, l13, s14, l15, l16, l17])] [[l1, l2, i3, i4, i5, s6, l7, i8, i9, i10, i11, i12, l13, s14, l15, l16, l17], [i19, s20, l21], [i22, s23, l24]] l42
  (∃ b43 : Bool, CallN Try.prog 12 [l41, l42] [[l1, l2, i3, i4, i5, s6, l7, i8, i9, i10, i11, i12, l13, s14, l15, l16, l17], [i19, s20, l21], [i22, s23, l24]] b43
  (br (b43)
  (∃ i44 : Int, CallN Try.prog 15 [l18, s25] [[l1, l2, i3, i4, i5, s6, l7, i8, i9, i10, i11, i12, l13, s14, l15, l16, l17], [i19, s20, l21], [i22, s23, l24]] i44
  (∃ i45 : Int, CallN Try.prog 16 [l18, s25] [[l1, l2, i3, i4, i5, s6, l7, i8, i9, i10, i11, i12, l13, s14, l15, l16, l17], [i19, s20, l21], [i22, s23, l24]] i45
  (br (((i44 : Int) == i45))
  (br (((i35 : Int) == i38))
  (br (((i36 : Int) == i39))
  (br ((b37 == b40))
  (∃ b46 : Bool, CallN Try.prog 17 [l18, (.agg [i19, s20, l21])] [[l1, l2, i3, i4, i5, s6, l7, i8, i9, i10, i11, i12, l13, s14, l15, l16, l17], [i19, s20, l21], [i22, s23, l24]] b46
  (∃ b47 : Bool, CallN Try.prog 18 [l18, (.agg [i19, s20, l21])] [[l1, l2, i3, i4, i5, s6, l7, i8, i9, i10, i11, i12, l13, s14, l15, l16, l17], [i19, s20, l21], [i22, s23, l24]] b47
  (br ((b46 == b47))
  (∃ b48 : Bool, CallN Try.prog 19 [(.agg [i19, s20, l21]), (.agg [i22, s23, l24])] [[l1, l2, i3, i4, i5, s6, l7, i8, i9, i10, i11, i12, l13, s14, l15, l16, l17], [i19, s20, l21], [i22, s23, l24]] b48
  (∃ b49 : Bool, CallN Try.prog 20 [(.agg [i19, s20, l21]), (.agg [i22, s23, l24])] [[l1, l2, i3, i4, i5, s6, l7, i8, i9, i10, i11, i12, l13, s14, l15, l16, l17], [i19, s20, l21], [i22, s23, l24]] b49
  (br ((b48 == b49))
  (∃ b50 : Bool, CallN Try.prog 19 [(.agg [i19, s20, l21]), (.agg [i19, s20, l21])] [[l1, l2, i3, i4, i5, s6, l7, i8, i9, i10, i11, i12, l13, s14, l15, l16, l17], [i19, s20, l21], [i22, s23, l24]] b50
  (br (b50)
  (∃ b51 : Bool, CallN Try.prog 9 [] [[l1, l2, i3, i4, i5, s6, l7, i8, i9, i10, i11, i12, l13, s14, l15, l16, l17], [i19, s20, l21], [i22, s23, l24]] b51
  (Q b51 [[l1, l2, i3, i4, i5, s6, l7, i8, i9, i10, i11, i12, l13, s14, l15, l16, l17], [i19, s20, l21], [i22, s23, l24]]))
  (Q (.con (.bool false)) [[l1, l2, i3, i4, i5, s6, l7, i8, i9, i10, i11, i12, l13, s14, l15, l16, l17], [i19, s20, l21], [i22, s23, l24]])))
  (Q (.con (.bool false)) [[l1, l2, i3, i4, i5, s6, l7, i8, i9, i10, i11, i12, l13, s14, l15, l16, l17], [i19, s20, l21], [i22, s23, l24]]))))
  (Q (.con (.bool false)) [[l1, l2, i3, i4, i5, s6, l7, i8, i9, i10, i11, i12, l13, s14, l15, l16, l17], [i19, s20, l21], [i22, s23, l24]]))))
  (Q (.con (.bool false)) [[l1, l2, i3, i4, i5, s6, l7, i8, i9, i10, i11, i12, l13, s14, l15, l16, l17], [i19, s20, l21], [i22, s23, l24]]))
  (Q (.con (.bool false)) [[l1, l2, i3, i4, i5, s6, l7, i8, i9, i10, i11, i12, l13, s14, l15, l16, l17], [i19, s20, l21], [i22, s23, l24]]))
  (Q (.con (.bool false)) [[l1, l2, i3, i4, i5, s6, l7, i8, i9, i10, i11, i12, l13, s14, l15, l16, l17], [i19, s20, l21], [i22, s23, l24]]))
  (Q (.con (.bool false)) [[l1, l2, i3, i4, i5, s6, l7, i8, i9, i10, i11, i12, l13, s14, l15, l16, l17], [i19, s20, l21], [i22, s23, l24]]))))
  (Q (.con (.bool false)) [[l1, l2, i3, i4, i5, s6, l7, i8, i9, i10, i11, i12, l13, s14, l15, l16, l17], [i19, s20, l21], [i22, s23, l24]])))))))))))))))
theorem a3 (l1 l2 : List (List PV)) (i3 i4 i5 : Int) (s6 : ByteArray) (l7 : List (List PV)) (i8 i9 i10 i11 i12 : Int) (l13 : List (List PV)) (s14 : ByteArray) (l15 l16 l17 l18 : List (List PV)) (i19 : Int) (s20 : ByteArray) (l21 : List (List PV)) (i22 : Int) (s23 : ByteArray) (l24 : List (List PV)) (s25 : ByteArray) (Q : PV → Heap → Prop) (h : p3 l1 l2 i3 i4 i5 s6 l7 i8 i9 i10 i11 i12 l13 s14 l15 l16 l17 l18 i19 s20 l21 i22 s23 l24 s25 Q) : ACalls Try.prog 3 [(.agg [l1, l2, i3, i4, i5, s6, l7, i8, i9, i10, i11, i12, l13, s14, l15, l16, l17]), l18, (.agg [i19, s20, l21]), (.agg [i22, s23, l24]), s25] [] Q := by
  have hb : Option.some (bodyOf Try.f3) = Try.f3.body := by kernel_rfl
  exact acalls_eq (S := S) (L := loops29) mixed tok Try.func3 hb.symm (by kernel_rfl) h
end Go.Proofs.Ytgkagelejoknmaa.Deep

namespace Go.Proofs.Ytgkagelejoknmaa.Deep
open Go.RowKit
set_option linter.unusedVariables false
set_option linter.unusedSimpArgs false
theorem cells_Type (a : Ty) : ∃ x0 : Int, ∃ x1 : ByteArray, ∃ x2 : List (List PV), tyP a = [.con (.int .i64 x0), .con (.string x1), .sl x2] := by
  obtain ⟨k, n, ps⟩ := a
  exact ⟨_, _, _, rfl⟩
theorem cells_Con (a : Co) : ∃ x0 : ByteArray, ∃ x1 : List (List PV), coP a = [.con (.string x0), .sl x1] := ⟨_, _, rfl⟩
theorem cells_Data (a : Da) : ∃ x0 : Int, ∃ x1 : Int, ∃ x2 : ByteArray, ∃ x3 : List (List PV), daP a = [.con (.int .i64 x0), .con (.int .i64 x1), .con (.string x2), .sl x3] := ⟨_, _, _, _, rfl⟩
theorem tyPs_mp : ∀ ts : List Ty, tyPs ts = ts.map tyP
  | [] => rfl
  | t :: ts => by rw [tyPs, tyPs_mp ts]; rfl
theorem oneL_of {y : List PV} {n : Nat} (h : y.length = n) (h1 : y.all PV.one = true) : ∀ z ∈ [y], z.length = n ∧ ∀ p ∈ z, PV.one p = true := fun z hz => by
  obtain rfl : z = y := by simpa using hz
  exact ⟨h, fun p hp => List.all_eq_true.1 h1 p hp⟩
theorem each_t (l : List Ty) (hm : l.length ≤ 4000) (H : ∀ a ∈ l, PCalls Try.prog 44 [.agg (tyP a)] (fun r => r = .agg (tyP a))) : PCalls Try.prog 43 [.sl (l.map tyP), .fn 44 []] (fun r => r = .sl (l.map tyP)) := by
  refine pcalls_weak (a43k _ _ ?_)
  unfold p43k
  rw [List.length_map]
  refine ⟨fun c w => ∃ j : Nat, j ≤ l.length ∧ c = l.length - j ∧ w.1 = (l.take j).map tyP ∧ w.2.1 = (j : Int), ⟨_, 0, Nat.zero_le _, rfl, by simp, rfl⟩, ?_⟩
  rintro c ⟨x, i, u⟩ ⟨j, hj, rfl, hx, hi⟩
  dsimp only at hi hx ⊢
  subst hi hx
  refine br_i (fun hlt => ?_) (fun hge => ?_)
  · have hlt : j < l.length := by simpa using hlt
    have hc := H l[j] (List.getElem_mem hlt)
    have hs : (l.take j).map tyP ++ [tyP l[j]] = (l.take (j + 1)).map tyP := by rw [List.take_succ_eq_append_getElem hlt, List.map_append]; rfl
    obtain ⟨x0, x1, x2, hx⟩ := cells_Type l[j]
    rw [hx] at hc hs
    refine ⟨x0, x1, x2, ⟨by omega, by rw [Int.toNat_natCast, map_get tyP l j hlt, hx], ?_⟩⟩
    refine ⟨x0, x1, x2, call_p (enters_of Try.func44 (by kernel_rfl) rfl) hc rfl ?_⟩
    refine ⟨by rw [List.length_map, List.length_take]; simp only [List.length_cons, List.length_nil]; omega, oneL_of rfl rfl, ?_⟩
    refine ⟨⟨by trivial, by trivial, by trivial, trivial⟩, by trivial, l.length - (j + 1), by omega, j + 1, by omega, rfl, hs, ?_⟩
    rw [wrap_id (by omega) (by omega)]; simp
  · have hge : ¬ j < l.length := by simpa using hge
    obtain rfl : j = l.length := by omega
    rw [List.take_length]
    exact ⟨rfl, rfl⟩
theorem new_t (t : Ty) : smallTy t → PCalls Try.prog 44 [.agg (tyP t)] (fun r => r = .agg (tyP t)) := by
  induction t using Ty.ind with
  | h k s ps ih =>
  intro hs
  unfold smallTy at hs
  have h := each_t ps (by have := hs.2.1; omega) (fun a ha => by
    obtain ⟨i, hi, rfl⟩ := List.getElem_of_mem ha
    exact ih i hi (smallTys_at ps hs.2.2 i hi))
  refine a44 _ _ _ _ ?_
  unfold p44
  rw [tyPs_mp]
  exact ⟨_, call_p (enters_of Try.func43 (by kernel_rfl) rfl) h rfl ⟨by rw [tyP, tyPs_mp], rfl⟩⟩
theorem new_c (c : Co) (hs : smallCo c) : PCalls Try.prog 40 [.agg (coP c)] (fun r => r = .agg (coP c)) := by
  obtain ⟨h1, h2, h3⟩ := hs
  have h := each_t c.fields (by omega) (fun a ha => by
    obtain ⟨i, hi, rfl⟩ := List.getElem_of_mem ha
    exact new_t _ (smallTys_at _ h3 i hi))
  refine a40 _ _ _ ?_
  unfold p40
  rw [tyPs_mp]
  exact ⟨_, call_p (enters_of Try.func43 (by kernel_rfl) rfl) h rfl ⟨by rw [coP, tyPs_mp], rfl⟩⟩
theorem each_c (l : List Co) (hm : l.length ≤ 4000) (H : ∀ a ∈ l, PCalls Try.prog 40 [.agg (coP a)] (fun r => r = .agg (coP a))) : PCalls Try.prog 39 [.sl (l.map coP), .fn 40 []] (fun r => r = .sl (l.map coP)) := by
  refine pcalls_weak (a39k _ _ ?_)
  unfold p39k
  rw [List.length_map]
  refine ⟨fun c w => ∃ j : Nat, j ≤ l.length ∧ c = l.length - j ∧ w.1 = (l.take j).map coP ∧ w.2.1 = (j : Int), ⟨_, 0, Nat.zero_le _, rfl, by simp, rfl⟩, ?_⟩
  rintro c ⟨x, i, u⟩ ⟨j, hj, rfl, hx, hi⟩
  dsimp only at hi hx ⊢
  subst hi hx
  refine br_i (fun hlt => ?_) (fun hge => ?_)
  · have hlt : j < l.length := by simpa using hlt
    have hc := H l[j] (List.getElem_mem hlt)
    have hs : (l.take j).map coP ++ [coP l[j]] = (l.take (j + 1)).map coP := by rw [List.take_succ_eq_append_getElem hlt, List.map_append]; rfl
    obtain ⟨x0, x1, hx⟩ := cells_Con l[j]
    rw [hx] at hc hs
    refine ⟨x0, x1, ⟨by omega, by rw [Int.toNat_natCast, map_get coP l j hlt, hx], ?_⟩⟩
    refine ⟨x0, x1, call_p (enters_of Try.func40 (by kernel_rfl) rfl) hc rfl ?_⟩
    refine ⟨by rw [List.length_map, List.length_take]; simp only [List.length_cons, List.length_nil]; omega, oneL_of rfl rfl, ?_⟩
    refine ⟨⟨by trivial, by trivial, by trivial, trivial⟩, by trivial, l.length - (j + 1), by omega, j + 1, by omega, rfl, hs, ?_⟩
    rw [wrap_id (by omega) (by omega)]; simp
  · have hge : ¬ j < l.length := by simpa using hge
    obtain rfl : j = l.length := by omega
    rw [List.take_length]
    exact ⟨rfl, rfl⟩
theorem new_d (d : Da) (h2 : d.cons.length ≤ 3000) (h3 : ∀ c ∈ d.cons, smallCo c) : PCalls Try.prog 27 [.agg (daP d)] (fun r => r = .agg (daP d)) := by
  have h := each_c d.cons (by omega) (fun a ha => new_c a (h3 a ha))
  refine a27 _ _ _ _ _ ?_
  unfold p27
  exact ⟨_, call_p (enters_of Try.func39 (by kernel_rfl) rfl) h rfl ⟨rfl, rfl⟩⟩
theorem each_d (l : List Da) (hm : l.length ≤ 4000) (H : ∀ a ∈ l, PCalls Try.prog 27 [.agg (daP a)] (fun r => r = .agg (daP a))) : PCalls Try.prog 26 [.sl (l.map daP), .fn 27 []] (fun r => r = .sl (l.map daP)) := by
  refine pcalls_weak (a26k _ _ ?_)
  unfold p26k
  rw [List.length_map]
  refine ⟨fun c w => ∃ j : Nat, j ≤ l.length ∧ c = l.length - j ∧ w.1 = (l.take j).map daP ∧ w.2.1 = (j : Int), ⟨_, 0, Nat.zero_le _, rfl, by simp, rfl⟩, ?_⟩
  rintro c ⟨x, i, u⟩ ⟨j, hj, rfl, hx, hi⟩
  dsimp only at hi hx ⊢
  subst hi hx
  refine br_i (fun hlt => ?_) (fun hge => ?_)
  · have hlt : j < l.length := by simpa using hlt
    have hc := H l[j] (List.getElem_mem hlt)
    have hs : (l.take j).map daP ++ [daP l[j]] = (l.take (j + 1)).map daP := by rw [List.take_succ_eq_append_getElem hlt, List.map_append]; rfl
    obtain ⟨x0, x1, x2, x3, hx⟩ := cells_Data l[j]
    rw [hx] at hc hs
    refine ⟨x0, x1, x2, x3, ⟨by omega, by rw [Int.toNat_natCast, map_get daP l j hlt, hx], ?_⟩⟩
    refine ⟨x0, x1, x2, x3, call_p (enters_of Try.func27 (by kernel_rfl) rfl) hc rfl ?_⟩
    refine ⟨by rw [List.length_map, List.length_take]; simp only [List.length_cons, List.length_nil]; omega, oneL_of rfl rfl, ?_⟩
    refine ⟨⟨by trivial, by trivial, by trivial, trivial⟩, by trivial, l.length - (j + 1), by omega, j + 1, by omega, rfl, hs, ?_⟩
    rw [wrap_id (by omega) (by omega)]; simp
  · have hge : ¬ j < l.length := by simpa using hge
    obtain rfl : j = l.length := by omega
    rw [List.take_length]
    exact ⟨rfl, rfl⟩
def tyAct : Ty := .mk 2 ⟨#[97, 99, 116]⟩ []
def tyNum : Ty := .mk 0 ⟨#[]⟩ []
def alwaysD : List Da := [⟨0, 0, ⟨#[98, 111, 111, 108]⟩, [⟨⟨#[70, 97, 108, 115, 101]⟩, []⟩, ⟨⟨#[84, 114, 117, 101]⟩, []⟩]⟩,
  ⟨0, 0, ⟨#[97, 99, 116]⟩, [⟨⟨#[68, 111, 110, 101]⟩, []⟩, ⟨⟨#[83, 97, 121]⟩, [tyNum, tyAct]⟩, ⟨⟨#[84, 101, 108, 108]⟩, [.mk 1 ⟨#[]⟩ [], tyAct]⟩, ⟨⟨#[65, 114, 109]⟩, [tyNum, tyNum, tyAct]⟩, ⟨⟨#[83, 116, 111, 112]⟩, [tyNum, tyAct]⟩]⟩]
theorem always_small : ∀ d ∈ alwaysD, smallDa d := by
  intro d hd
  have ha : smallTy tyAct := ⟨by decide, by decide, trivial⟩
  have hn : smallTy tyNum := ⟨by decide, by decide, trivial⟩
  have hb : smallTy (.mk 1 ⟨#[]⟩ []) := ⟨by decide, by decide, trivial⟩
  simp only [alwaysD, List.mem_cons, List.not_mem_nil, or_false] at hd
  rcases hd with rfl | rfl
  · refine ⟨by decide, by decide, fun c hc => ?_⟩
    simp only [List.mem_cons, List.not_mem_nil, or_false] at hc
    rcases hc with rfl | rfl <;> exact ⟨by decide, by decide, trivial⟩
  · refine ⟨by decide, by decide, fun c hc => ?_⟩
    simp only [List.mem_cons, List.not_mem_nil, or_false] at hc
    rcases hc with rfl | rfl | rfl | rfl | rfl
    · exact ⟨by decide, by decide, trivial⟩
    · exact ⟨by decide, by decide, hn, ha, trivial⟩
    · exact ⟨by decide, by decide, hb, ha, trivial⟩
    · exact ⟨by decide, by decide, hn, hn, ha, trivial⟩
    · exact ⟨by decide, by decide, hn, ha, trivial⟩
theorem always_c : ACalls Try.prog 25 [] [] (fun r h => r = .own 0 53 4 (alwaysD.map daP) ∧ h = [[.tip]]) := by
  refine a25 _ ?_
  unfold p25
  exact ⟨rfl, rfl⟩
theorem daP_one (ds : List Da) : ∀ y ∈ ds.map daP, y.length = 4 ∧ ∀ p ∈ y, PV.one p = true := fun y hy => by
  obtain ⟨d, _, rfl⟩ := List.mem_map.1 hy
  refine ⟨rfl, fun p hp => ?_⟩
  have : (daP d).all PV.one = true := rfl
  exact List.all_eq_true.1 this p hp
theorem datas_p (p : Pr) (hl : p.datas.length ≤ 3000) (hd : ∀ d ∈ p.datas, smallDa d) : PCalls Try.prog 13 [.agg (prP p)] (fun r => r = .sl ((alwaysD ++ p.datas).map daP)) := by
  obtain ⟨ds, fs, q, tm, st, cp, ini, hds⟩ := p
  dsimp only at hl hd
  obtain ⟨k, n, ps, hp⟩ := ty_mk st
  obtain ⟨k', li', co', m', b', n', ks', ps', bs', hp2⟩ := ex_mk ini
  subst hp hp2
  refine pcalls_weak (a13 _ _ _ _ _ _ _ _ _ _ _ _ _ _ _ _ _ _ ?_)
  unfold p13
  refine ⟨_, ⟨enters_of Try.func25 (by kernel_rfl) rfl, always_c, ?_⟩⟩
  refine ⟨_, call_p (enters_of Try.func26 (by kernel_rfl) rfl) (each_d ds (by omega) (fun a ha => new_d a (hd a ha).2.1 (hd a ha).2.2)) rfl ?_⟩
  refine ⟨by rw [List.length_map, List.length_map]; simp only [alwaysD, List.length_cons, List.length_nil]; omega, daP_one ds, ?_⟩
  exact ⟨by rw [List.map_append]; rfl, rfl⟩
theorem rdatas_p (p : Pr) (hl : p.datas.length ≤ 3000) : PCalls Try.prog 14 [.agg (prP p)] (fun r => r = .sl ((alwaysD ++ p.datas).map daP)) := by
  obtain ⟨ds, fs, q, tm, st, cp, ini, hds⟩ := p
  dsimp only at hl
  obtain ⟨k, n, ps, hp⟩ := ty_mk st
  obtain ⟨k', li', co', m', b', n', ks', ps', bs', hp2⟩ := ex_mk ini
  subst hp hp2
  refine pcalls_weak (a14 _ _ _ _ _ _ _ _ _ _ _ _ _ _ _ _ _ _ ?_)
  unfold p14
  refine ⟨by rw [List.length_map]; simp only [List.length_cons, List.length_nil]; omega, daP_one ds, ?_⟩
  exact ⟨by rw [List.map_append]; rfl, rfl⟩
theorem same_datas (ds : List Da) (hl : ds.length ≤ 4000) (hs : ∀ d ∈ ds, smallDa d) : PCalls Try.prog 12 [.sl (ds.map daP), .sl (ds.map daP)] (fun r => r = .con (.bool true)) := by
  refine a12 _ _ _ ?_
  unfold p12
  rw [List.length_map, len_ne]
  refine br_i (fun h => absurd h (by simp)) (fun _ => ?_)
  refine ⟨fun c w => ∃ j : Nat, j ≤ ds.length ∧ c = ds.length - j ∧ w.1 = (j : Int), ⟨_, 0, Nat.zero_le _, rfl, rfl⟩, ?_⟩
  rintro c ⟨i, u⟩ ⟨j, hj, rfl, hi⟩
  dsimp only at hi ⊢
  subst hi
  refine br_i (fun hlt => ?_) (fun hge => ⟨rfl, rfl⟩)
  have hlt : j < ds.length := by simpa using hlt
  have hx := daP_cons ds j hlt
  obtain ⟨_, h2, h3⟩ := hs _ (List.getElem_mem hlt)
  generalize ds[j] = d at hx h2 h3
  obtain ⟨dl, dc, dn, cs⟩ := d
  dsimp only at hx h2 h3
  have ix : ∀ {X : Prop}, X → IdxN (ds.map daP) (j : Int) [.con (.int .i64 dl), .con (.int .i64 dc), .con (.string dn), .sl (cs.map coP)] X := fun hX => ⟨by omega, by rw [Int.toNat_natCast]; exact hx, hX⟩
  refine ⟨_, _, _, _, ix ?_⟩
  refine ⟨_, _, _, _, ix ?_⟩
  rw [beq_str]
  refine br_i (fun h => absurd h (by simp)) (fun _ => ?_)
  refine ⟨_, _, _, _, ix ?_⟩
  refine ⟨_, _, _, _, ix ?_⟩
  rw [List.length_map, len_ne]
  refine br_i (fun h => absurd h (by simp)) (fun _ => ?_)
  refine ⟨fun c w => ∃ k : Nat, k ≤ cs.length ∧ c = cs.length - k ∧ w.1 = (k : Int), ⟨_, 0, Nat.zero_le _, rfl, rfl⟩, ?_⟩
  rintro c ⟨i, u⟩ ⟨k, hk, rfl, hi⟩
  dsimp only at hi ⊢
  subst hi
  refine ⟨_, _, _, _, ix ?_⟩
  rw [List.length_map]
  refine br_i (fun hlt2 => ?_) (fun hge => ⟨⟨rfl, rfl, trivial⟩, rfl, ds.length - (j + 1), by omega, j + 1, by omega, rfl, by rw [wrap_id (by omega) (by omega)]; simp⟩)
  have hlt2 : k < cs.length := by simpa using hlt2
  have hy := coP_cons cs k hlt2
  have hsc := h3 _ (List.getElem_mem hlt2)
  generalize cs[k] = e at hy hsc
  obtain ⟨cn, cf⟩ := e
  dsimp only at hy hsc
  have iy : ∀ {X : Prop}, X → IdxN (cs.map coP) (k : Int) [.con (.string cn), .sl (tyPs cf)] X := fun hX => ⟨by omega, by rw [Int.toNat_natCast]; exact hy, hX⟩
  have hT : smallTy (.mk 0 ⟨#[]⟩ cf) := ⟨by decide, hsc.2.1, hsc.2.2⟩
  have hc := rsame_p (.mk 0 ⟨#[]⟩ cf) (.mk 0 ⟨#[]⟩ cf) hT
  rw [sameT_self] at hc
  refine ⟨_, _, _, _, ix ⟨_, _, iy ⟨_, _, _, _, ix ⟨_, _, iy ?_⟩⟩⟩⟩
  rw [beq_str]
  refine br_i (fun h => absurd h (by simp)) (fun _ => ?_)
  refine ⟨_, call_p (enters_of Try.func20 (by kernel_rfl) rfl) hc rfl ?_⟩
  refine br_i (fun h => absurd h (by simp)) (fun _ => ⟨⟨rfl, rfl, rfl, trivial⟩, rfl, cs.length - (k + 1), by omega, k + 1, by omega, rfl, ?_⟩)
  rw [wrap_id (by omega) (by omega)]; simp
theorem tells_p (hA : PCalls Try.prog 9 [] (fun r => r = .con (.bool true))) (p : Pr) (ds : List Da) (a b : Ty) (s : ByteArray) (hp : wfPr p) : PCalls Try.prog 3 [.agg (prP p), .sl (ds.map daP), .agg (tyP a), .agg (tyP b), .con (.string s)] (fun r => r = .con (.bool true)) := by
  have l1 := light_prog p hp 2000 (by omega) (by omega)
  have l2 := light_l ds
  have l3 := light_ty a 2000 (by omega) (by omega)
  have l4 := light_ty b 2000 (by omega) (by omega)
  have s1 : 0 ≤ lightPr p 2000 → smallPr p := lightPr_small p hp
  have s3 : 0 ≤ lightTy a 2000 → smallTy a := fun h => (lightTy_ok a 2000).2.2.2 (by omega) h
  have s4 : 0 ≤ lightTy b 2000 → smallTy b := fun h => (lightTy_ok b 2000).2.2.2 (by omega) h
  have f1 : smallPr p → _ := fun h => And.intro (datas_p p h.1 h.2.1) (And.intro (rdatas_p p h.1) (same_datas (alwaysD ++ p.datas) (by simp only [List.length_append, alwaysD, List.length_cons, List.length_nil]; have := h.1; omega) (fun d hd => by
    rcases List.mem_append.1 hd with hd | hd
    · exact always_small d hd
    · exact h.2.1 d hd)))
  have g1 : lightB ds = true → _ := fun h => And.intro (few_len h) (lightB_few h)
  have k1 : lightB ds = true → smallTy a → _ := fun h ha => And.intro (known_p ds a (few_len h).1 (fun d hd => by have := ((lightB_few h).2 d hd).1; omega) ha) (rknown_p ds (few_len h).1 a ha)
  have k2 : smallTy a → smallTy b → _ := fun ha hb => And.intro (same_p a b ha hb) (And.intro (rsame_p a b ha) (same_p a a ha ha))
  rw [sameT_self] at k2
  clear hp
  obtain ⟨ds0, fs, q, tm, st, cp, ini, hds⟩ := p
  obtain ⟨k, n, ps, hp⟩ := ty_mk st
  obtain ⟨k', li', co', m', b', n', ks', ps', bs', hp2⟩ := ex_mk ini
  obtain ⟨ka, na, psa, hpa⟩ := ty_mk a
  obtain ⟨kb, nb, psb, hpb⟩ := ty_mk b
  subst hp hp2 hpa hpb
  refine a3 _ _ _ _ _ _ _ _ _ _ _ _ _ _ _ _ _ _ _ _ _ _ _ _ _ _ ?_
  unfold p3
  have aw : ∀ (h : Heap), CallN Try.prog 9 [] h (.con (.bool true)) (okQ (.con (.bool true)) h) := fun h => call_p (enters_of Try.func9 (by kernel_rfl) rfl) hA rfl ⟨rfl, rfl⟩
  refine ⟨_, call_p (enters_of Try.func6 (by kernel_rfl) rfl) l1 rfl ?_⟩
  refine br_i (fun _ => ⟨_, aw _⟩) (fun c1 => ?_)
  refine ⟨_, call_p (enters_of Try.func7 (by kernel_rfl) rfl) l2 rfl ?_⟩
  refine br_i (fun _ => ⟨_, aw _⟩) (fun c2 => ?_)
  refine ⟨_, call_p (enters_of Try.func8 (by kernel_rfl) rfl) l3 rfl ?_⟩
  refine br_i (fun _ => ⟨_, aw _⟩) (fun c3 => ?_)
  refine ⟨_, call_p (enters_of Try.func8 (by kernel_rfl) rfl) l4 rfl ?_⟩
  refine br_i (fun _ => ⟨_, aw _⟩) (fun c4 => ?_)
  refine br_i (fun _ => ⟨_, aw _⟩) (fun c5 => ?_)
  have t1 := s1 (by simpa using c1)
  have t2 := le_yes c2
  have t3 := s3 (by simpa using c3)
  have t4 := s4 (by simpa using c4)
  obtain ⟨e1, e2, e3⟩ := f1 t1
  obtain ⟨⟨g2, g3⟩, _⟩ := g1 t2
  obtain ⟨k3, k4⟩ := k1 t2 t3
  obtain ⟨k5, k6, k7⟩ := k2 t3 t4
  refine ⟨_, _, _, call_p (enters_of Try.func10 (by kernel_rfl) rfl) (con_p ds s g2 g3) rfl ?_⟩
  refine ⟨_, _, _, call_p (enters_of Try.func11 (by kernel_rfl) rfl) (rcon_p ds s g2 g3) rfl ?_⟩
  refine ⟨_, call_p (enters_of Try.func13 (by kernel_rfl) rfl) e1 rfl ?_⟩
  refine ⟨_, call_p (enters_of Try.func14 (by kernel_rfl) rfl) e2 rfl ?_⟩
  refine ⟨_, call_p (enters_of Try.func12 (by kernel_rfl) rfl) e3 rfl ?_⟩
  refine br_i (fun _ => ?_) (fun h => absurd h (by simp))
  refine ⟨_, call_p (enters_of Try.func15 (by kernel_rfl) rfl) (find_p ds s g2) rfl ?_⟩
  refine ⟨_, call_p (enters_of Try.func16 (by kernel_rfl) rfl) (rfind_p ds s g2) rfl ?_⟩
  refine br_i (fun _ => ?_) (fun h => absurd h (by simp))
  refine br_i (fun _ => ?_) (fun h => absurd h (by simp))
  refine br_i (fun _ => ?_) (fun h => absurd h (by simp))
  refine br_i (fun _ => ?_) (fun h => absurd h (by simp))
  refine ⟨_, call_p (enters_of Try.func17 (by kernel_rfl) rfl) k3 rfl ?_⟩
  refine ⟨_, call_p (enters_of Try.func18 (by kernel_rfl) rfl) k4 rfl ?_⟩
  refine br_i (fun _ => ?_) (fun h => absurd h (by simp))
  refine ⟨_, call_p (enters_of Try.func19 (by kernel_rfl) rfl) k5 rfl ?_⟩
  refine ⟨_, call_p (enters_of Try.func20 (by kernel_rfl) rfl) k6 rfl ?_⟩
  refine br_i (fun _ => ?_) (fun h => absurd h (by simp))
  refine ⟨_, call_p (enters_of Try.func19 (by kernel_rfl) rfl) k7 rfl ?_⟩
  refine br_i (fun _ => ?_) (fun h => absurd h (by simp))
  exact ⟨_, aw _⟩
end Go.Proofs.Ytgkagelejoknmaa.Deep

namespace Go.Proofs.Ytgkagelejoknmaa.Deep
open Go.RowKit
set_option linter.unusedVariables false
set_option linter.unusedSimpArgs false
theorem each_b (l : List Da) (hm : l.length ≤ 4000) : ACalls Try.prog 34 [.sl (l.map daP), .fn 35 []] [] (fun r h => r = .own 0 4 1 (l.map fun _ => [.con (.bool false)]) ∧ h = [[.tip]]) := by
  refine a34k _ _ ?_
  unfold p34k
  rw [List.length_map]
  refine ⟨fun c w => ∃ j : Nat, j ≤ l.length ∧ c = l.length - j ∧ w.1 = (l.take j).map (fun _ => [PV.con (.bool false)]) ∧ w.2.1 = (j : Int), ⟨_, 0, Nat.zero_le _, rfl, by simp, rfl⟩, ?_⟩
  rintro c ⟨x, i, u⟩ ⟨j, hj, rfl, hx, hi⟩
  dsimp only at hi hx ⊢
  subst hi hx
  refine br_i (fun hlt => ?_) (fun hge => ?_)
  · have hlt : j < l.length := by simpa using hlt
    have hc : PCalls Try.prog 35 [.agg (daP l[j])] (fun r => r = .con (.bool false)) := by
      refine a35 _ _ _ _ _ ?_
      unfold p35
      exact ⟨rfl, rfl⟩
    have hs : (l.take j).map (fun _ => [PV.con (.bool false)]) ++ [[PV.con (.bool false)]] = (l.take (j + 1)).map (fun _ => [PV.con (.bool false)]) := by rw [List.take_succ_eq_append_getElem hlt, List.map_append]; rfl
    obtain ⟨x0, x1, x2, x3, hx⟩ := cells_Data l[j]
    rw [hx] at hc
    refine ⟨x0, x1, x2, x3, ⟨by omega, by rw [Int.toNat_natCast, map_get daP l j hlt, hx], ?_⟩⟩
    refine ⟨false, call_p (enters_of Try.func35 (by kernel_rfl) rfl) hc rfl ?_⟩
    refine ⟨by rw [List.length_map, List.length_take]; simp only [List.length_cons, List.length_nil]; omega, oneL_of rfl rfl, ?_⟩
    refine ⟨⟨by trivial, by trivial, by trivial, trivial⟩, by trivial, l.length - (j + 1), by omega, j + 1, by omega, rfl, hs, ?_⟩
    rw [wrap_id (by omega) (by omega)]; simp
  · have hge : ¬ j < l.length := by simpa using hge
    obtain rfl : j = l.length := by omega
    rw [List.take_length]
    exact ⟨rfl, rfl⟩
def tN : ByteArray := ⟨#[116]⟩
def dT : Da := ⟨0, 0, tN, [⟨⟨#[65]⟩, [.mk 2 tN []]⟩]⟩
theorem dT_find : findD [dT] tN = 0 := by decide
theorem dT_has : Maps.has (nums [dT]).2 (key tN) = true ∧ (nums [dT]).2.atKey (key tN) (numL 0) = numL 0 := by
  obtain ⟨h1, h2⟩ := (nums_num [dT]).2 tN
  rw [dT_find] at h1 h2
  exact ⟨h1, h2⟩
theorem needs_one (n : Nat) : ACalls Try.prog 42 [.mp 0, .own 1 3 1 [], .sl [[.con (.int .i64 2), .con (.string tN), .sl []]]] [[.mpc 9 3 n (nums [dT]).2], [.tip]] (fun r h => r = .tup [.own 2 3 1 [[.con (.int .i64 0)]], .con (.bool true)] ∧ h = [[.mpc 9 3 n (nums [dT]).2], [], [.tip]]) := by
  obtain ⟨h1, h2⟩ := dT_has
  refine a42 _ _ _ _ _ ?_
  unfold p42
  refine ⟨fun c w => (c = 1 ∧ w = ([], true, 0, ())) ∨ (c = 0 ∧ w = ([[.con (.int .i64 0)]], true, 1, ())), ⟨1, .inl ⟨rfl, rfl⟩⟩, ?_⟩
  rintro c w (⟨rfl, rfl⟩ | ⟨rfl, rfl⟩)
  · dsimp only
    refine br_i (fun _ => ?_) (fun h => absurd h (by decide))
    refine ⟨_, _, _, ⟨by decide, rfl, ?_⟩⟩
    refine br_i (fun h => absurd h (by decide)) (fun _ => ?_)
    refine br_i (fun h => absurd h (by decide)) (fun _ => ?_)
    refine br_i (fun _ => ?_) (fun h => absurd h (by decide))
    refine ⟨_, _, ⟨by decide, h2, h1, ?_⟩⟩
    refine ⟨by simp, oneL_of rfl rfl, ?_⟩
    refine br_i (fun h => absurd h (by decide)) (fun _ => ?_)
    exact ⟨⟨by trivial, by trivial, by trivial, trivial⟩, by trivial, 0, by decide, .inr ⟨rfl, rfl⟩⟩
  · dsimp only
    refine br_i (fun h => absurd h (by decide)) (fun _ => ?_)
    exact ⟨rfl, rfl⟩
theorem makers_one : ACalls Try.prog 37 [.sl ([dT].map daP)] [] (fun r h => r = .own 1 96 2 [[.con (.int .i64 0), .sl [[.con (.int .i64 0)]]]] ∧ h = [[.mpc 9 3 (nums [dT]).1 (nums [dT]).2], [.tip]]) := by
  refine a37 _ _ ?_
  unfold p37
  refine ⟨_, _, ⟨enters_of Try.func30 (by kernel_rfl) rfl, numbers_c [dT] (by decide) (fun d hd => by
    obtain rfl : d = dT := by simpa using hd
    decide), ?_⟩⟩
  refine ⟨fun c w => (c = 1 ∧ w = ([], 0, ())) ∨ (c = 0 ∧ w = ([[.con (.int .i64 0), .sl [[.con (.int .i64 0)]]]], 1, ())), ⟨1, .inl ⟨rfl, rfl⟩⟩, ?_⟩
  rintro c w (⟨rfl, rfl⟩ | ⟨rfl, rfl⟩)
  · dsimp only
    refine br_i (fun _ => ?_) (fun h => absurd h (by decide))
    refine ⟨_, _, _, _, ⟨by decide, rfl, ?_⟩⟩
    refine ⟨fun c w => (c = 1 ∧ w = ([], 0, ())) ∨ (c = 0 ∧ w = ([[.con (.int .i64 0), .sl [[.con (.int .i64 0)]]]], 1, ())), ⟨1, .inl ⟨rfl, rfl⟩⟩, ?_⟩
    rintro c w (⟨rfl, rfl⟩ | ⟨rfl, rfl⟩)
    · dsimp only
      refine br_i (fun _ => ?_) (fun h => absurd h (by decide))
      refine ⟨_, _, ⟨by decide, rfl, ?_⟩⟩
      refine ⟨_, _, ⟨enters_of Try.func42 (by kernel_rfl) rfl, needs_one _, ?_⟩⟩
      refine br_i (fun _ => ?_) (fun h => absurd h (by decide))
      refine ⟨by simp, oneL_of rfl rfl, ?_⟩
      exact ⟨⟨by trivial, by trivial, by trivial, by trivial, by trivial, by trivial, by trivial, trivial⟩, by trivial, 0, by decide, .inr ⟨rfl, rfl⟩⟩
    · dsimp only
      refine br_i (fun h => absurd h (by decide)) (fun _ => ?_)
      exact ⟨⟨by trivial, by trivial, by trivial, trivial⟩, by trivial, 0, by decide, .inr ⟨rfl, rfl⟩⟩
  · dsimp only
    refine br_i (fun h => absurd h (by decide)) (fun _ => ?_)
    exact ⟨rfl, rfl⟩
end Go.Proofs.Ytgkagelejoknmaa.Deep

namespace Go.Proofs.Ytgkagelejoknmaa.Deep
open Go.RowKit
set_option linter.unusedVariables false
set_option linter.unusedSimpArgs false
variable {P : Program} {G : Nat → Nat} {m : Nat → Pl} {w : World}
theorem raw_own {f : FuncId} {args : List PV} {b : Nat} {e : TypeId} {sz : Nat} {xs : List (List PV)} {H : Heap} (hc : ACalls P f args [] fun r h => r = .own b e sz xs ∧ h = H) (hx : 0 < xs.length) (hH : kind (H.getD b []) = .tip) (hs : HS P G m w []) {vs : Array Value} (ha : Args G m w 0 vs args) {W : World} (hb : Below w.heap.size w W) :
    Calls P f vs W fun x W' => ∃ g c, ∃ (F : Nat → Nat → Value) (G' : Nat → Nat) (m' : Nat → Pl), x = .returned (.slice (some ⟨g, 0, none⟩) xs.length c) ∧ xs.length ≤ c ∧ c ≤ 9223372036854775807 ∧ w.heap.size ≤ g ∧ g < W'.heap.size ∧ (∀ i, i < xs.length → ∀ j, j < sz → W'.cell? ⟨g, i * sz + j, none⟩ = some (F i j)) ∧
      (∀ i, i < xs.length → ∀ j, j < sz → Rep G' m' W' 0 (F i j) ((xs.getD i []).getD j .any)) ∧ (∀ k, G' k ≠ 0 → k < W'.heap.size) ∧ Below W.heap.size W W' := by
  obtain ⟨h1, g1⟩ := hs.later hb
  refine (hc G m W vs h1 ⟨ha.1, fun i hi => (ha.2 i hi).keep (Nat.le_refl _) g1.keeps⟩).mono ?_
  rintro x W' ⟨v, r, h', G', m', rfl, ⟨rfl, rfl⟩, hr, hs', hg⟩
  cases hr with
  | own0 n b e sz hb2 => simp at hx
  | own1 _ _ _ c _ _ F hb2 hp h1 h2 h0 hz hsh hg2 hfr hxx hrr =>
    have hal : alive m' h' b := by
      unfold alive
      rw [hH]
      show (m' b).fr ≠ 0
      rw [hfr]
      have := Nat.mul_pos hp h0
      omega
    have hnew : W.heap.size ≤ (m' b).at' := by
      rcases hg.new b (Nat.zero_le _) hb2 hal with q | ⟨b0, q, _⟩
      · exact q
      · exact absurd q (Nat.not_lt_zero _)
    exact ⟨(m' b).at', c, F, G', m', rfl, h1, h2, Nat.le_trans hb.size hnew, hsh.lt, hxx, hrr, hs'.old, hg.below⟩
theorem give_own {w w' : World} {g c : Nat} {u : Value} (hs : HS P G m w []) (h1 : 1 ≤ c) (h2 : c ≤ 9223372036854775807) (hg : w.heap.size ≤ g) (hg2 : g < w'.heap.size) (hx : w'.cell? ⟨g, 0, none⟩ = some u) (hb : Below w.heap.size w w') :
    ∃ G' m', Rep G' m' w' 0 (.slice (some ⟨g, 0, none⟩) 1 c) (.sl [[.con u]]) ∧ HS P G' m' w' [] ∧ Goes G m w [] G' m' w' [] := by
  have hle : ∀ k, G k ≤ (if k < w.heap.size then G k else if k = g then 1 else 0) := fun k => by
    by_cases hk : k < w.heap.size
    · rw [if_pos hk]; exact Nat.le_refl _
    · have : G k = 0 := by
        apply Classical.byContradiction
        intro hn
        exact hk (hs.old k hn)
      omega
  refine ⟨fun k => if k < w.heap.size then G k else if k = g then 1 else 0, m, ?_, ⟨fun b hb => absurd hb (Nat.not_lt_zero _), fun b _ hb => absurd hb (Nat.not_lt_zero _), fun k hk => ?_⟩, ⟨hb.os, hb.tape, hb.output, hb.size, Nat.le_refl _, hle, fun k o ho => ?_, fun k e N hsh => ?_, fun _ _ => rfl, fun _ h => absurd h (Nat.not_lt_zero _), fun k hk _ => ⟨hb.block k hk, by simp [hk]⟩, fun b _ hb => absurd hb (Nat.not_lt_zero _)⟩⟩
  · refine .sl 0 (some ⟨g, 0, none⟩) c 1 [[.con u]] (fun _ _ => u) h1 h2 (fun i hi => ?_) (fun _ => ⟨g, 0, rfl, ?_, fun i hi j hj => ?_⟩) (fun i hi j hj => ?_)
    · obtain rfl : i = 0 := by simpa using hi
      rfl
    · rw [if_neg (by omega), if_pos rfl]; simp
    · obtain rfl : i = 0 := by simpa using hi
      obtain rfl : j = 0 := by omega
      exact hx
    · obtain rfl : i = 0 := by simpa using hi
      obtain rfl : j = 0 := by omega
      exact .con _ _
  · by_cases hk2 : k < w.heap.size
    · exact Nat.lt_of_lt_of_le hk2 hb.size
    · simp only [if_neg hk2] at hk
      split at hk
      · rename_i he; rw [he]; exact hg2
      · exact absurd rfl hk
  · have hk : k < w.heap.size := hs.old k (by omega)
    exact hb.cell (p := ⟨k, o, none⟩) hk
  · exact hsh.block (hb.block k hsh.lt)
end Go.Proofs.Ytgkagelejoknmaa.Deep

namespace Go.Proofs.Ytgkagelejoknmaa.Deep
open Go.RowKit
set_option linter.unusedVariables false
set_option linter.unusedSimpArgs false
theorem rep_con {G : Nat → Nat} {m : Nat → Pl} {w : World} {n : Nat} {v u : Value} (h : Rep G m w n v (.con u)) : v = u := by
  cases h; rfl
theorem full_one : PCalls Try.prog 21 [.sl ([dT].map daP)] (fun r => r = .sl [[.con (.bool false)]]) := by
  intro G m w vs hs ha
  obtain ⟨hsz, hrep⟩ := ha
  have hsz : vs.size = 1 := hsz
  obtain ⟨v, rfl⟩ : ∃ v, vs = #[v] := by
    obtain ⟨l⟩ := vs
    match l, hsz with
    | [v], _ => exact ⟨v, rfl⟩
  have h0 : Rep G m w 0 v (.sl ([dT].map daP)) := hrep 0 (by decide)
  obtain ⟨A, C, hv⟩ : ∃ A C, v = .slice A 1 C := by
    cases h0 with
    | sl _ a c sz xs F hc hm hz ha hr => exact ⟨a, c, rfl⟩
  have e34 : ∀ W, Below w.heap.size w W → Calls Try.prog 34 #[v, .func (.func 35) #[] #[]] W fun e W' => ∃ g c, e = .returned (.slice (some ⟨g, 0, none⟩) 1 c) ∧ 1 ≤ c ∧ c ≤ 9223372036854775807 ∧ w.heap.size ≤ g ∧ g < W'.heap.size ∧ W'.cell? ⟨g, 0, none⟩ = some (.bool false) ∧ Below W.heap.size W W' := by
    intro W hb
    refine (raw_own (each_b [dT] (by decide)) (by decide) rfl hs (vs := #[v, .func (.func 35) #[] #[]]) ⟨rfl, fun i hi => ?_⟩ hb).mono ?_
    · match i, hi with
      | 0, _ => exact h0
      | 1, _ => exact .fn 0 35 [] [] rfl (fun i hi => absurd hi (Nat.not_lt_zero _))
    · rintro e W' ⟨g, c, F, G', m', he, h1, h2, h3, h4, h5, h6, h7, h8⟩
      have hc : W'.cell? ⟨g, 0, none⟩ = some (F 0 0) := h5 0 (by decide) 0 (by decide)
      have hf : F 0 0 = .bool false := rep_con (h6 0 (by decide) 0 (by decide))
      rw [hf] at hc
      exact ⟨g, c, he, h1, h2, h3, h4, hc, h8⟩
  have e37 : ∀ W, Below w.heap.size w W → Calls Try.prog 37 #[v] W fun e W' => ∃ g c g4 o4 c4, e = .returned (.slice (some ⟨g, 0, none⟩) 1 c) ∧ 1 ≤ c ∧ c ≤ 9223372036854775807 ∧ W'.cell? ⟨g, 0, none⟩ = some (.int .i64 0) ∧ W'.cell? ⟨g, 1, none⟩ = some (.slice (some ⟨g4, o4, none⟩) 1 c4) ∧ W'.cell? ⟨g4, o4, none⟩ = some (.int .i64 0) ∧ 1 ≤ c4 ∧ c4 ≤ 9223372036854775807 ∧ Below W.heap.size W W' := by
    intro W hb
    refine (raw_own makers_one (by decide) rfl hs (vs := #[v]) ⟨rfl, fun i hi => ?_⟩ hb).mono ?_
    · match i, hi with
      | 0, _ => exact h0
    · rintro e W' ⟨g, c, F, G', m', he, h1, h2, h3, h4, h5, h6, h7, h8⟩
      have hc : W'.cell? ⟨g, 0, none⟩ = some (F 0 0) := h5 0 (by decide) 0 (by decide)
      have hd : W'.cell? ⟨g, 1, none⟩ = some (F 0 1) := h5 0 (by decide) 1 (by decide)
      have hf : F 0 0 = .int .i64 0 := rep_con (h6 0 (by decide) 0 (by decide))
      have hr : Rep G' m' W' 0 (F 0 1) (.sl [[.con (.int .i64 0)]]) := h6 0 (by decide) 1 (by decide)
      rw [hf] at hc
      generalize F 0 1 = u at hd hr
      cases hr with
      | sl _ a c4 sz xs F4 k1 k2 k3 k4 k5 =>
        have hs1 : sz = 1 := (k3 0 (by decide)).symm
        subst hs1
        obtain ⟨g4, o4, rfl, k6, k7⟩ := k4 (by decide)
        have k8 : W'.cell? ⟨g4, o4, none⟩ = some (F4 0 0) := k7 0 (by decide) 0 (by decide)
        have k9 : F4 0 0 = .int .i64 0 := rep_con (k5 0 (by decide) 0 (by decide))
        rw [k9] at k8
        exact ⟨g, c, g4, o4, c4, he, h1, h2, hc, hd, k8, k1, k2, h8⟩
  refine (full_raw w v A C hv e34 e37).mono ?_
  rintro e w' ⟨g, c, rfl, h1, h2, h3, h4, h5, h6⟩
  obtain ⟨G', m', hr, hs', hg⟩ := give_own hs h1 h2 h3 h4 h5 h6
  exact ⟨_, _, [], G', m', rfl, ⟨rfl, by rfl⟩, hr, hs', hg⟩
def pr0 : Pr := ⟨[], [], 0, 0, .mk 0 ⟨#[]⟩ [], 0, .mk 0 0 0 0 [] ⟨#[]⟩ [] [] [], []⟩
theorem awake_p : PCalls Try.prog 9 [] (fun r => r = .con (.bool true)) := by
  refine a9 _ ?_
  unfold p9
  refine ⟨_, call_p (enters_of Try.func13 (by kernel_rfl) rfl) (datas_p pr0 (by decide) (fun d hd => by cases hd)) rfl ?_⟩
  have hc := con_p (alwaysD ++ pr0.datas) ⟨#[83, 97, 121]⟩ (by decide) (by decide)
  have e1 : conD ⟨#[83, 97, 121]⟩ (alwaysD ++ pr0.datas) 0 = (1, 1, true) := by kernel_rfl
  rw [e1] at hc
  refine ⟨_, _, _, call_p (enters_of Try.func10 (by kernel_rfl) rfl) hc rfl ?_⟩
  refine ⟨_, call_p (enters_of Try.func21 (by kernel_rfl) rfl) full_one rfl ?_⟩
  refine br_i (fun _ => ?_) (fun h => absurd h (by decide))
  refine br_i (fun _ => ?_) (fun h => absurd h (by decide))
  refine br_i (fun _ => ?_) (fun h => absurd h (by decide))
  refine br_i (fun _ => ?_) (fun h => absurd h (by decide))
  exact ⟨false, ⟨by decide, rfl, rfl, rfl⟩⟩
end Go.Proofs.Ytgkagelejoknmaa.Deep
