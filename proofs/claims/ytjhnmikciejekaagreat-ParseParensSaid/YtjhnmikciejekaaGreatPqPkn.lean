/-
  Texts of one proof, in their order. No condition.
-/
import Derived.Test.YtjhnmikciejekaaGreatPqPkm
set_option linter.unusedSectionVars false
set_option linter.unusedSimpArgs false
set_option linter.unusedVariables false
namespace Go.Proofs.YtjhnmikciejekaaGreat.Deep
open Go.RowKit
set_option linter.unusedVariables false
theorem under_P (s : ByteArray) : (faceP s).under 0 = true := by
  unfold faceP
  cases faceS (fun z l b => pG z (l.length + 1) l b) s with
  | ok e => obtain ⟨ds, fs, qn, tn, ⟨k0, n0, ks⟩, cap, ⟨k1, li1, co1, m1, y1, nm1, ks1, ps1, bs1⟩, hs⟩ := e; rfl
  | error f => rfl
theorem parse_p (s : ByteArray) (hs : s.size ≤ 9223372036854775807) : PCalls Tryz.prog 8 [.con (.string s)] (fun r => r = faceP s) := by
  have c : PCalls Tryz.prog 25 [.con (.string s), .fn 26 []] (fun r => r = faceP s) := (read_P s hs).mono fun r h' ⟨_, e⟩ => ⟨e, by rw [e]; exact under_P s⟩
  have en : Enters Tryz.prog 25 := enters_of Tryz.func25 (by kernel_rfl) rfl
  refine a8 s _ ?_
  unfold p8
  unfold faceP at c ⊢
  cases hx : faceS (fun z l b => pG z (l.length + 1) l b) s with
  | ok e =>
    obtain ⟨ds, fs, qn, tn, ⟨k0, n0, ks⟩, cap, ⟨k1, li1, co1, m1, y1, nm1, ks1, ps1, bs1⟩, hs⟩ := e
    rw [hx] at c
    exact ⟨ds.map daP, fs.map fuP, qn, tn, k0, n0, tyPs ks, cap, k1, li1, co1, m1, byP y1, nm1, exPs ks1, arPs bs1 ps1, hs.map haP, 0, 0, 0, call_p en c rfl ⟨rfl, rfl⟩⟩
  | error f =>
    rw [hx] at c
    exact ⟨[], [], 0, 0, 0, e0, [], 0, 0, 0, 0, 0, [], e0, [], [], [], f.e, f.li, f.co, call_p en c rfl ⟨rfl, rfl⟩⟩
end Go.Proofs.YtjhnmikciejekaaGreat.Deep

namespace Go.Proofs.YtjhnmikciejekaaGreat.Deep
open Go.RowKit
set_option linter.unusedVariables false
def p7  (Q : PV → Heap → Prop) : Prop :=
∃ i1 : Int, ∃ i2 : Int, ∃ i3 : Int, ∃ i4 : Int, ∃ l5 : List (List PV), ∃ s6 : ByteArray, ∃ l7 : List (List PV), ∃ l8 : List (List PV), ∃ i9 : Int, ∃ i10 : Int, ∃ i11 : Int, CallN Tryz.prog 11 [(.con (.string ⟨#[49, 32, 43, 32, 50, 32, 42, 32, 120]⟩))] [] (.tup [(.agg [i1, i2, i3, i4, l5, s6, l7, l8]), (.agg [i9, i10, i11])])
  (∃ i12 : Int, ∃ i13 : Int, ∃ i14 : Int, ∃ i15 : Int, ∃ l16 : List (List PV), ∃ s17 : ByteArray, ∃ l18 : List (List PV), ∃ l19 : List (List PV), ∃ i20 : Int, ∃ i21 : Int, ∃ i22 : Int, CallN Tryz.prog 11 [(.con (.string ⟨#[102, 40]⟩))] [[i1, i2, i3, i4, l5, s6, l7, l8], [i9, i10, i11]] (.tup [(.agg [i12, i13, i14, i15, l16, s17, l18, l19]), (.agg [i20, i21, i22])])
  (∃ l23 : List (List PV), ∃ l24 : List (List PV), ∃ i25 : Int, ∃ i26 : Int, ∃ i27 : Int, ∃ s28 : ByteArray, ∃ l29 : List (List PV), ∃ i30 : Int, ∃ i31 : Int, ∃ i32 : Int, ∃ i33 : Int, ∃ i34 : Int, ∃ l35 : List (List PV), ∃ s36 : ByteArray, ∃ l37 : List (List PV), ∃ l38 : List (List PV), ∃ l39 : List (List PV), ∃ i40 : Int, ∃ i41 : Int, ∃ i42 : Int, CallN Tryz.prog 8 [(.con (.string ⟨#[]⟩))] [[i1, i2, i3, i4, l5, s6, l7, l8], [i9, i10, i11], [i12, i13, i14, i15, l16, s17, l18, l19], [i20, i21, i22]] (.tup [(.agg [l23, l24, i25, i26, i27, s28, l29, i30, i31, i32, i33, i34, l35, s36, l37, l38, l39]), (.agg [i40, i41, i42])])
  (br (((i9 : Int) == 0))
  (br (((i1 : Int) == 9))
  (br (((i4 : Int) == 0))
  (EqN Tryz.prog 29
  (br ((((i2 : Int) == 1) && (((i3 : Int) == 3) && true)))
  (EqN Tryz.prog 40
  (br ((((i20 : Int) == 7) && ((((i21 : Int) == 1) && (((i22 : Int) == 3) && true)) && true)))
  (EqN Tryz.prog 40
  (Q (.con (.bool (((i40 : Int) == 18) && ((((i41 : Int) == 1) && (((i42 : Int) == 1) && true)) && true)))) [[i1, i2, i3, i4, l5, s6, l7, l8], [i9, i10, i11], [i12, i13, i14, i15, l16, s17, l18, l19], [i20, i21, i22], [l23, l24, i25, i26, i27, s28, l29, i30, i31, i32, i33, i34, l35, s36, l37, l38, l39], [i40, i41, i42]]))
  (Q (.con (.bool false)) [[i1, i2, i3, i4, l5, s6, l7, l8], [i9, i10, i11], [i12, i13, i14, i15, l16, s17, l18, l19], [i20, i21, i22], [l23, l24, i25, i26, i27, s28, l29, i30, i31, i32, i33, i34, l35, s36, l37, l38, l39], [i40, i41, i42]])))
  (Q (.con (.bool false)) [[i1, i2, i3, i4, l5, s6, l7, l8], [i9, i10, i11], [i12, i13, i14, i15, l16, s17, l18, l19], [i20, i21, i22], [l23, l24, i25, i26, i27, s28, l29, i30, i31, i32, i33, i34, l35, s36, l37, l38, l39], [i40, i41, i42]])))
  (Q (.con (.bool false)) [[i1, i2, i3, i4, l5, s6, l7, l8], [i9, i10, i11], [i12, i13, i14, i15, l16, s17, l18, l19], [i20, i21, i22], [l23, l24, i25, i26, i27, s28, l29, i30, i31, i32, i33, i34, l35, s36, l37, l38, l39], [i40, i41, i42]]))
  (Q (.con (.bool false)) [[i1, i2, i3, i4, l5, s6, l7, l8], [i9, i10, i11], [i12, i13, i14, i15, l16, s17, l18, l19], [i20, i21, i22], [l23, l24, i25, i26, i27, s28, l29, i30, i31, i32, i33, i34, l35, s36, l37, l38, l39], [i40, i41, i42]]))
  (Q (.con (.bool false)) [[i1, i2, i3, i4, l5, s6, l7, l8], [i9, i10, i11], [i12, i13, i14, i15, l16, s17, l18, l19], [i20, i21, i22], [l23, l24, i25, i26, i27, s28, l29, i30, i31, i32, i33, i34, l35, s36, l37, l38, l39], [i40, i41, i42]]))))
theorem e7   (Q : PV → Heap → Prop) : funA Tryz.prog T S loops60 (fun _ => False) Tryz.f7 (bodyOf Tryz.f7) [] [] Q = p7  Q := by kernel_rfl
theorem a7  (Q : PV → Heap → Prop) (h : p7  Q) : ACalls Tryz.prog 7 [] [] Q := by
  have hb : Option.some (bodyOf Tryz.f7) = Tryz.f7.body := by kernel_rfl
  exact acalls_eq (S := S) (L := loops60) mixed tok Tryz.func7 hb.symm (e7  Q) h
end Go.Proofs.YtjhnmikciejekaaGreat.Deep

namespace Go.Proofs.YtjhnmikciejekaaGreat.Deep
open Go.RowKit
set_option linter.unusedVariables false
def tA : ByteArray := ⟨#[49, 32, 43, 32, 50, 32, 42, 32, 120]⟩
def tB : ByteArray := ⟨#[102, 40]⟩
def kA : List Ex := [.mk 0 1 1 1 [] e0 [] [] [], .mk 9 1 7 2 [] e0 [.mk 0 1 5 2 [] e0 [] [] [], .mk 2 1 9 0 [] ⟨#[120]⟩ [] [] []] [] []]
theorem shA : faceE tA = .tup [.agg [.con (.int .i64 9), .con (.int .i64 1), .con (.int .i64 3), .con (.int .i64 0), .sl [], .con (.string e0), .sl (exPs kA), .sl []], .agg [.con (.int .i64 0), .con (.int .i64 0), .con (.int .i64 0)]] := by kernel_rfl
theorem shB : faceE tB = .tup [zeroE, .agg [.con (.int .i64 7), .con (.int .i64 1), .con (.int .i64 3)]] := by kernel_rfl
theorem shC : faceP e0 = .tup [zeroP, .agg [.con (.int .i64 18), .con (.int .i64 1), .con (.int .i64 1)]] := by kernel_rfl
theorem en_Expr : Enters Tryz.prog 11 := enters_of Tryz.func11 (by kernel_rfl) rfl
theorem en_Parse : Enters Tryz.prog 8 := enters_of Tryz.func8 (by kernel_rfl) rfl
theorem en_awake : Enters Tryz.prog 7 := enters_of Tryz.func7 (by kernel_rfl) rfl
theorem brT {X Y : Prop} {b : Bool} (h : b = true) (x : X) : br b X Y := by subst h; exact x
theorem awake_p : PCalls Tryz.prog 7 [] (fun r => r = .con (.bool true)) := by
  have cA : PCalls Tryz.prog 11 [.con (.string tA)] (fun r => r = faceE tA) := expr_p tA (by decide)
  have cB : PCalls Tryz.prog 11 [.con (.string tB)] (fun r => r = faceE tB) := expr_p tB (by decide)
  have cC : PCalls Tryz.prog 8 [.con (.string e0)] (fun r => r = faceP e0) := parse_p e0 (by decide)
  rw [shA] at cA
  rw [shB] at cB
  rw [shC] at cC
  refine a7 _ ?_
  unfold p7
  refine ⟨9, 1, 3, 0, [], e0, exPs kA, [], 0, 0, 0, call_p en_Expr cA rfl ?_⟩
  refine ⟨0, 0, 0, 0, [], e0, [], [], 7, 1, 3, call_p en_Expr cB rfl ?_⟩
  refine ⟨[], [], 0, 0, 0, e0, [], 0, 0, 0, 0, 0, [], e0, [], [], [], 18, 1, 1, call_p en_Parse cC rfl ?_⟩
  refine brT rfl (brT rfl (brT rfl ⟨by kernel_rfl, by kernel_rfl, by kernel_rfl, brT rfl ⟨by kernel_rfl, by kernel_rfl, by kernel_rfl, brT rfl ⟨by kernel_rfl, by kernel_rfl, by kernel_rfl, ⟨rfl, rfl⟩⟩⟩⟩))
end Go.Proofs.YtjhnmikciejekaaGreat.Deep

namespace Go.Proofs.YtjhnmikciejekaaGreat.Deep
open Go.RowKit
set_option linter.unusedVariables false
def p6 (s1 s2 : ByteArray) (i3 : Int) (Q : PV → Heap → Prop) : Prop :=
br ((decide (((ByteArray.size s1 : Int) : Int) > 800)))
  (∃ b4 : Bool, CallN Tryz.prog 7 [] [] b4
  (Q b4 []))
  (br ((decide (((ByteArray.size s2 : Int) : Int) > 800)))
  (∃ b5 : Bool, CallN Tryz.prog 7 [] [] b5
  (Q b5 []))
  (∃ i6 : Int, ∃ i7 : Int, ∃ i8 : Int, ∃ i9 : Int, ∃ l10 : List (List PV), ∃ s11 : ByteArray, ∃ l12 : List (List PV), ∃ l13 : List (List PV), ∃ i14 : Int, ∃ i15 : Int, ∃ i16 : Int, CallN Tryz.prog 11 [s1] [] (.tup [(.agg [i6, i7, i8, i9, l10, s11, l12, l13]), (.agg [i14, i15, i16])])
  (CatN ⟨#[40]⟩ s1
  (CatN (⟨#[40]⟩ ++ s1) ⟨#[10, 41]⟩
  (∃ i17 : Int, ∃ i18 : Int, ∃ i19 : Int, ∃ i20 : Int, ∃ l21 : List (List PV), ∃ s22 : ByteArray, ∃ l23 : List (List PV), ∃ l24 : List (List PV), ∃ i25 : Int, ∃ i26 : Int, ∃ i27 : Int, CallN Tryz.prog 11 [(.con (.string ((⟨#[40]⟩ ++ s1) ++ ⟨#[10, 41]⟩)))] [[i6, i7, i8, i9, l10, s11, l12, l13], [i14, i15, i16]] (.tup [(.agg [i17, i18, i19, i20, l21, s22, l23, l24]), (.agg [i25, i26, i27])])
  (br (((i14 : Int) == 0))
  (br (((i25 : Int) != 0))
  (Q (.con (.bool false)) [[i6, i7, i8, i9, l10, s11, l12, l13], [i14, i15, i16], [i17, i18, i19, i20, l21, s22, l23, l24], [i25, i26, i27]])
  (∃ b28 : Bool, CallN Tryz.prog 15 [(.agg [i6, i7, i8, i9, l10, s11, l12, l13]), (.agg [i17, i18, i19, i20, l21, s22, l23, l24])] [[i6, i7, i8, i9, l10, s11, l12, l13], [i14, i15, i16], [i17, i18, i19, i20, l21, s22, l23, l24], [i25, i26, i27]] b28
  (br ((!b28))
  (Q (.con (.bool false)) [[i6, i7, i8, i9, l10, s11, l12, l13], [i14, i15, i16], [i17, i18, i19, i20, l21, s22, l23, l24], [i25, i26, i27]])
  (∃ i29 : Int, ∃ i30 : Int, ∃ i31 : Int, ∃ i32 : Int, ∃ l33 : List (List PV), ∃ s34 : ByteArray, ∃ l35 : List (List PV), ∃ l36 : List (List PV), ∃ i37 : Int, ∃ i38 : Int, ∃ i39 : Int, CallN Tryz.prog 11 [s2] [[i6, i7, i8, i9, l10, s11, l12, l13], [i14, i15, i16], [i17, i18, i19, i20, l21, s22, l23, l24], [i25, i26, i27]] (.tup [(.agg [i29, i30, i31, i32, l33, s34, l35, l36]), (.agg [i37, i38, i39])])
  (CatN ⟨#[40]⟩ s1
  (CatN (⟨#[40]⟩ ++ s1) ⟨#[10, 41, 32]⟩
  (∃ s40 : ByteArray, IdxN [[(.con (.string ⟨#[43]⟩))], [(.con (.string ⟨#[45]⟩))], [(.con (.string ⟨#[42]⟩))], [(.con (.string ⟨#[47]⟩))], [(.con (.string ⟨#[37]⟩))], [(.con (.string ⟨#[60]⟩))], [(.con (.string ⟨#[60, 61]⟩))], [(.con (.string ⟨#[61, 61]⟩))]] (Int.tmod (IntKind.wrap .i64 i3) 8) [s40]
  (CatN ((⟨#[40]⟩ ++ s1) ++ ⟨#[10, 41, 32]⟩) s40
  (CatN (((⟨#[40]⟩ ++ s1) ++ ⟨#[10, 41, 32]⟩) ++ s40) ⟨#[32, 40]⟩
  (CatN ((((⟨#[40]⟩ ++ s1) ++ ⟨#[10, 41, 32]⟩) ++ s40) ++ ⟨#[32, 40]⟩) s2
  (CatN (((((⟨#[40]⟩ ++ s1) ++ ⟨#[10, 41, 32]⟩) ++ s40) ++ ⟨#[32, 40]⟩) ++ s2) ⟨#[10, 41]⟩
  (∃ i41 : Int, ∃ i42 : Int, ∃ i43 : Int, ∃ i44 : Int, ∃ l45 : List (List PV), ∃ s46 : ByteArray, ∃ l47 : List (List PV), ∃ l48 : List (List PV), ∃ i49 : Int, ∃ i50 : Int, ∃ i51 : Int, CallN Tryz.prog 11 [(.con (.string ((((((⟨#[40]⟩ ++ s1) ++ ⟨#[10, 41, 32]⟩) ++ s40) ++ ⟨#[32, 40]⟩) ++ s2) ++ ⟨#[10, 41]⟩)))] [[i6, i7, i8, i9, l10, s11, l12, l13], [i14, i15, i16], [i17, i18, i19, i20, l21, s22, l23, l24], [i25, i26, i27], [i29, i30, i31, i32, l33, s34, l35, l36], [i37, i38, i39], [.tip]] (.tup [(.agg [i41, i42, i43, i44, l45, s46, l47, l48]), (.agg [i49, i50, i51])])
  (br (((i14 : Int) != 0))
  (∃ b52 : Bool, CallN Tryz.prog 7 [] [[i6, i7, i8, i9, l10, s11, l12, l13], [i14, i15, i16], [i17, i18, i19, i20, l21, s22, l23, l24], [i25, i26, i27], [i29, i30, i31, i32, l33, s34, l35, l36], [i37, i38, i39], [.tip], [i41, i42, i43, i44, l45, s46, l47, l48], [i49, i50, i51]] b52
  (Q b52 [[i6, i7, i8, i9, l10, s11, l12, l13], [i14, i15, i16], [i17, i18, i19, i20, l21, s22, l23, l24], [i25, i26, i27], [i29, i30, i31, i32, l33, s34, l35, l36], [i37, i38, i39], [.tip], [i41, i42, i43, i44, l45, s46, l47, l48], [i49, i50, i51]]))
  (br (((i37 : Int) != 0))
  (∃ b53 : Bool, CallN Tryz.prog 7 [] [[i6, i7, i8, i9, l10, s11, l12, l13], [i14, i15, i16], [i17, i18, i19, i20, l21, s22, l23, l24], [i25, i26, i27], [i29, i30, i31, i32, l33, s34, l35, l36], [i37, i38, i39], [.tip], [i41, i42, i43, i44, l45, s46, l47, l48], [i49, i50, i51]] b53
  (Q b53 [[i6, i7, i8, i9, l10, s11, l12, l13], [i14, i15, i16], [i17, i18, i19, i20, l21, s22, l23, l24], [i25, i26, i27], [i29, i30, i31, i32, l33, s34, l35, l36], [i37, i38, i39], [.tip], [i41, i42, i43, i44, l45, s46, l47, l48], [i49, i50, i51]]))
  (∃ i54 : Int, CallN Tryz.prog 24 [(.agg [i6, i7, i8, i9, l10, s11, l12, l13])] [[i6, i7, i8, i9, l10, s11, l12, l13], [i14, i15, i16], [i17, i18, i19, i20, l21, s22, l23, l24], [i25, i26, i27], [i29, i30, i31, i32, l33, s34, l35, l36], [i37, i38, i39], [.tip], [i41, i42, i43, i44, l45, s46, l47, l48], [i49, i50, i51]] i54
  (br ((decide ((i54 : Int) ≥ 64)))
  (∃ b55 : Bool, CallN Tryz.prog 7 [] [[i6, i7, i8, i9, l10, s11, l12, l13], [i14, i15, i16], [i17, i18, i19, i20, l21, s22, l23, l24], [i25, i26, i27], [i29, i30, i31, i32, l33, s34, l35, l36], [i37, i38, i39], [.tip], [i41, i42, i43, i44, l45, s46, l47, l48], [i49, i50, i51]] b55
  (Q b55 [[i6, i7, i8, i9, l10, s11, l12, l13], [i14, i15, i16], [i17, i18, i19, i20, l21, s22, l23, l24], [i25, i26, i27], [i29, i30, i31, i32, l33, s34, l35, l36], [i37, i38, i39], [.tip], [i41, i42, i43, i44, l45, s46, l47, l48], [i49, i50, i51]]))
  (∃ i56 : Int, CallN Tryz.prog 24 [(.agg [i29, i30, i31, i32, l33, s34, l35, l36])] [[i6, i7, i8, i9, l10, s11, l12, l13], [i14, i15, i16], [i17, i18, i19, i20, l21, s22, l23, l24], [i25, i26, i27], [i29, i30, i31, i32, l33, s34, l35, l36], [i37, i38, i39], [.tip], [i41, i42, i43, i44, l45, s46, l47, l48], [i49, i50, i51]] i56
  (br ((decide ((i56 : Int) ≥ 64)))
  (∃ b57 : Bool, CallN Tryz.prog 7 [] [[i6, i7, i8, i9, l10, s11, l12, l13], [i14, i15, i16], [i17, i18, i19, i20, l21, s22, l23, l24], [i25, i26, i27], [i29, i30, i31, i32, l33, s34, l35, l36], [i37, i38, i39], [.tip], [i41, i42, i43, i44, l45, s46, l47, l48], [i49, i50, i51]] b57
  (Q b57 [[i6, i7, i8, i9, l10, s11, l12, l13], [i14, i15, i16], [i17, i18, i19, i20, l21, s22, l23, l24], [i25, i26, i27], [i29, i30, i31, i32, l33, s34, l35, l36], [i37, i38, i39], [.tip], [i41, i42, i43, i44, l45, s46, l47, l48], [i49, i50, i51]]))
  (br (((i49 : Int) == 0))
  (br (((i41 : Int) == 9))
  (br (((i44 : Int) == (Int.tmod (IntKind.wrap .i64 i3) 8)))
  (br ((((List.length l47 : Int) : Int) == 2))
  (∃ i58 : Int, ∃ i59 : Int, ∃ i60 : Int, ∃ i61 : Int, ∃ l62 : List (List PV), ∃ s63 : ByteArray, ∃ l64 : List (List PV), ∃ l65 : List (List PV), IdxN l47 0 [i58, i59, i60, i61, l62, s63, l64, l65]
  (∃ b66 : Bool, CallN Tryz.prog 15 [(.agg [i58, i59, i60, i61, l62, s63, l64, l65]), (.agg [i6, i7, i8, i9, l10, s11, l12, l13])] [[i6, i7, i8, i9, l10, s11, l12, l13], [i14, i15, i16], [i17, i18, i19, i20, l21, s22, l23, l24], [i25, i26, i27], [i29, i30, i31, i32, l33, s34, l35, l36], [i37, i38, i39], [.tip], [i41, i42, i43, i44, l45, s46, l47, l48], [i49, i50, i51]] b66
  (br (b66)
  (∃ i67 : Int, ∃ i68 : Int, ∃ i69 : Int, ∃ i70 : Int, ∃ l71 : List (List PV), ∃ s72 : ByteArray, ∃ l73 : List (List PV), ∃ l74 : List (List PV), IdxN l47 1 [i67, i68, i69, i70, l71, s72, l73, l74]
  (∃ b75 : Bool, CallN Tryz.prog 15 [(.agg [i67, i68, i69, i70, l71, s72, l73, l74]), (.agg [i29, i30, i31, i32, l33, s34, l35, l36])] [[i6, i7, i8, i9, l10, s11, l12, l13], [i14, i15, i16], [i17, i18, i19, i20, l21, s22, l23, l24], [i25, i26, i27], [i29, i30, i31, i32, l33, s34, l35, l36], [i37, i38, i39], [.tip], [i41, i42, i43, i44, l45, s46, l47, l48], [i49, i50, i51]] b75
  (br (b75)
  (∃ b76 : Bool, CallN Tryz.prog 7 [] [[i6, i7, i8, i9, l10, s11, l12, l13], [i14, i15, i16], [i17, i18, i19, i20, l21, s22, l23, l24], [i25, i26, i27], [i29, i30, i31, i32, l33, s34, l35, l36], [i37, i38, i39], [.tip], [i41, i42, i43, i44, l45, s46, l47, l48], [i49, i50, i51]] b76
  (Q b76 [[i6, i7, i8, i9, l10, s11, l12, l13], [i14, i15, i16], [i17, i18, i19, i20, l21, s22, l23, l24], [i25, i26, i27], [i29, i30, i31, i32, l33, s34, l35, l36], [i37, i38, i39], [.tip], [i41, i42, i43, i44, l45, s46, l47, l48], [i49, i50, i51]]))
  (Q (.con (.bool false)) [[i6, i7, i8, i9, l10, s11, l12, l13], [i14, i15, i16], [i17, i18, i19, i20, l21, s22, l23, l24], [i25, i26, i27], [i29, i30, i31, i32, l33, s34, l35, l36], [i37, i38, i39], [.tip], [i41, i42, i43, i44, l45, s46, l47, l48], [i49, i50, i51]]))))
  (Q (.con (.bool false)) [[i6, i7, i8, i9, l10, s11, l12, l13], [i14, i15, i16], [i17, i18, i19, i20, l21, s22, l23, l24], [i25, i26, i27], [i29, i30, i31, i32, l33, s34, l35, l36], [i37, i38, i39], [.tip], [i41, i42, i43, i44, l45, s46, l47, l48], [i49, i50, i51]]))))
  (Q (.con (.bool false)) [[i6, i7, i8, i9, l10, s11, l12, l13], [i14, i15, i16], [i17, i18, i19, i20, l21, s22, l23, l24], [i25, i26, i27], [i29, i30, i31, i32, l33, s34, l35, l36], [i37, i38, i39], [.tip], [i41, i42, i43, i44, l45, s46, l47, l48], [i49, i50, i51]]))
  (Q (.con (.bool false)) [[i6, i7, i8, i9, l10, s11, l12, l13], [i14, i15, i16], [i17, i18, i19, i20, l21, s22, l23, l24], [i25, i26, i27], [i29, i30, i31, i32, l33, s34, l35, l36], [i37, i38, i39], [.tip], [i41, i42, i43, i44, l45, s46, l47, l48], [i49, i50, i51]]))
  (Q (.con (.bool false)) [[i6, i7, i8, i9, l10, s11, l12, l13], [i14, i15, i16], [i17, i18, i19, i20, l21, s22, l23, l24], [i25, i26, i27], [i29, i30, i31, i32, l33, s34, l35, l36], [i37, i38, i39], [.tip], [i41, i42, i43, i44, l45, s46, l47, l48], [i49, i50, i51]]))
  (Q (.con (.bool false)) [[i6, i7, i8, i9, l10, s11, l12, l13], [i14, i15, i16], [i17, i18, i19, i20, l21, s22, l23, l24], [i25, i26, i27], [i29, i30, i31, i32, l33, s34, l35, l36], [i37, i38, i39], [.tip], [i41, i42, i43, i44, l45, s46, l47, l48], [i49, i50, i51]]))))))))))))))))))))
  (∃ i77 : Int, ∃ i78 : Int, ∃ i79 : Int, ∃ i80 : Int, ∃ l81 : List (List PV), ∃ s82 : ByteArray, ∃ l83 : List (List PV), ∃ l84 : List (List PV), ∃ i85 : Int, ∃ i86 : Int, ∃ i87 : Int, CallN Tryz.prog 11 [s2] [[i6, i7, i8, i9, l10, s11, l12, l13], [i14, i15, i16], [i17, i18, i19, i20, l21, s22, l23, l24], [i25, i26, i27]] (.tup [(.agg [i77, i78, i79, i80, l81, s82, l83, l84]), (.agg [i85, i86, i87])])
  (CatN ⟨#[40]⟩ s1
  (CatN (⟨#[40]⟩ ++ s1) ⟨#[10, 41, 32]⟩
  (∃ s88 : ByteArray, IdxN [[(.con (.string ⟨#[43]⟩))], [(.con (.string ⟨#[45]⟩))], [(.con (.string ⟨#[42]⟩))], [(.con (.string ⟨#[47]⟩))], [(.con (.string ⟨#[37]⟩))], [(.con (.string ⟨#[60]⟩))], [(.con (.string ⟨#[60, 61]⟩))], [(.con (.string ⟨#[61, 61]⟩))]] (Int.tmod (IntKind.wrap .i64 i3) 8) [s88]
  (CatN ((⟨#[40]⟩ ++ s1) ++ ⟨#[10, 41, 32]⟩) s88
  (CatN (((⟨#[40]⟩ ++ s1) ++ ⟨#[10, 41, 32]⟩) ++ s88) ⟨#[32, 40]⟩
  (CatN ((((⟨#[40]⟩ ++ s1) ++ ⟨#[10, 41, 32]⟩) ++ s88) ++ ⟨#[32, 40]⟩) s2
  (CatN (((((⟨#[40]⟩ ++ s1) ++ ⟨#[10, 41, 32]⟩) ++ s88) ++ ⟨#[32, 40]⟩) ++ s2) ⟨#[10, 41]⟩
  (∃ i89 : Int, ∃ i90 : Int, ∃ i91 : Int, ∃ i92 : Int, ∃ l93 : List (List PV), ∃ s94 : ByteArray, ∃ l95 : List (List PV), ∃ l96 : List (List PV), ∃ i97 : Int, ∃ i98 : Int, ∃ i99 : Int, CallN Tryz.prog 11 [(.con (.string ((((((⟨#[40]⟩ ++ s1) ++ ⟨#[10, 41, 32]⟩) ++ s88) ++ ⟨#[32, 40]⟩) ++ s2) ++ ⟨#[10, 41]⟩)))] [[i6, i7, i8, i9, l10, s11, l12, l13], [i14, i15, i16], [i17, i18, i19, i20, l21, s22, l23, l24], [i25, i26, i27], [i77, i78, i79, i80, l81, s82, l83, l84], [i85, i86, i87], [.tip]] (.tup [(.agg [i89, i90, i91, i92, l93, s94, l95, l96]), (.agg [i97, i98, i99])])
  (br (((i14 : Int) != 0))
  (∃ b100 : Bool, CallN Tryz.prog 7 [] [[i6, i7, i8, i9, l10, s11, l12, l13], [i14, i15, i16], [i17, i18, i19, i20, l21, s22, l23, l24], [i25, i26, i27], [i77, i78, i79, i80, l81, s82, l83, l84], [i85, i86, i87], [.tip], [i89, i90, i91, i92, l93, s94, l95, l96], [i97, i98, i99]] b100
  (Q b100 [[i6, i7, i8, i9, l10, s11, l12, l13], [i14, i15, i16], [i17, i18, i19, i20, l21, s22, l23, l24], [i25, i26, i27], [i77, i78, i79, i80, l81, s82, l83, l84], [i85, i86, i87], [.tip], [i89, i90, i91, i92, l93, s94, l95, l96], [i97, i98, i99]]))
  (br (((i85 : Int) != 0))
  (∃ b101 : Bool, CallN Tryz.prog 7 [] [[i6, i7, i8, i9, l10, s11, l12, l13], [i14, i15, i16], [i17, i18, i19, i20, l21, s22, l23, l24], [i25, i26, i27], [i77, i78, i79, i80, l81, s82, l83, l84], [i85, i86, i87], [.tip], [i89, i90, i91, i92, l93, s94, l95, l96], [i97, i98, i99]] b101
  (Q b101 [[i6, i7, i8, i9, l10, s11, l12, l13], [i14, i15, i16], [i17, i18, i19, i20, l21, s22, l23, l24], [i25, i26, i27], [i77, i78, i79, i80, l81, s82, l83, l84], [i85, i86, i87], [.tip], [i89, i90, i91, i92, l93, s94, l95, l96], [i97, i98, i99]]))
  (∃ i102 : Int, CallN Tryz.prog 24 [(.agg [i6, i7, i8, i9, l10, s11, l12, l13])] [[i6, i7, i8, i9, l10, s11, l12, l13], [i14, i15, i16], [i17, i18, i19, i20, l21, s22, l23, l24], [i25, i26, i27], [i77, i78, i79, i80, l81, s82, l83, l84], [i85, i86, i87], [.tip], [i89, i90, i91, i92, l93, s94, l95, l96], [i97, i98, i99]] i102
  (br ((decide ((i102 : Int) ≥ 64)))
  (∃ b103 : Bool, CallN Tryz.prog 7 [] [[i6, i7, i8, i9, l10, s11, l12, l13], [i14, i15, i16], [i17, i18, i19, i20, l21, s22, l23, l24], [i25, i26, i27], [i77, i78, i79, i80, l81, s82, l83, l84], [i85, i86, i87], [.tip], [i89, i90, i91, i92, l93, s94, l95, l96], [i97, i98, i99]] b103
  (Q b103 [[i6, i7, i8, i9, l10, s11, l12, l13], [i14, i15, i16], [i17, i18, i19, i20, l21, s22, l23, l24], [i25, i26, i27], [i77, i78, i79, i80, l81, s82, l83, l84], [i85, i86, i87], [.tip], [i89, i90, i91, i92, l93, s94, l95, l96], [i97, i98, i99]]))
  (∃ i104 : Int, CallN Tryz.prog 24 [(.agg [i77, i78, i79, i80, l81, s82, l83, l84])] [[i6, i7, i8, i9, l10, s11, l12, l13], [i14, i15, i16], [i17, i18, i19, i20, l21, s22, l23, l24], [i25, i26, i27], [i77, i78, i79, i80, l81, s82, l83, l84], [i85, i86, i87], [.tip], [i89, i90, i91, i92, l93, s94, l95, l96], [i97, i98, i99]] i104
  (br ((decide ((i104 : Int) ≥ 64)))
  (∃ b105 : Bool, CallN Tryz.prog 7 [] [[i6, i7, i8, i9, l10, s11, l12, l13], [i14, i15, i16], [i17, i18, i19, i20, l21, s22, l23, l24], [i25, i26, i27], [i77, i78, i79, i80, l81, s82, l83, l84], [i85, i86, i87], [.tip], [i89, i90, i91, i92, l93, s94, l95, l96], [i97, i98, i99]] b105
  (Q b105 [[i6, i7, i8, i9, l10, s11, l12, l13], [i14, i15, i16], [i17, i18, i19, i20, l21, s22, l23, l24], [i25, i26, i27], [i77, i78, i79, i80, l81, s82, l83, l84], [i85, i86, i87], [.tip], [i89, i90, i91, i92, l93, s94, l95, l96], [i97, i98, i99]]))
  (br (((i97 : Int) == 0))
  (br (((i89 : Int) == 9))
  (br (((i92 : Int) == (Int.tmod (IntKind.wrap .i64 i3) 8)))
  (br ((((List.length l95 : Int) : Int) == 2))
  (∃ i106 : Int, ∃ i107 : Int, ∃ i108 : Int, ∃ i109 : Int, ∃ l110 : List (List PV), ∃ s111 : ByteArray, ∃ l112 : List (List PV), ∃ l113 : List (List PV), IdxN l95 0 [i106, i107, i108, i109, l110, s111, l112, l113]
  (∃ b114 : Bool, CallN Tryz.prog 15 [(.agg [i106, i107, i108, i109, l110, s111, l112, l113]), (.agg [i6, i7, i8, i9, l10, s11, l12, l13])] [[i6, i7, i8, i9, l10, s11, l12, l13], [i14, i15, i16], [i17, i18, i19, i20, l21, s22, l23, l24], [i25, i26, i27], [i77, i78, i79, i80, l81, s82, l83, l84], [i85, i86, i87], [.tip], [i89, i90, i91, i92, l93, s94, l95, l96], [i97, i98, i99]] b114
  (br (b114)
  (∃ i115 : Int, ∃ i116 : Int, ∃ i117 : Int, ∃ i118 : Int, ∃ l119 : List (List PV), ∃ s120 : ByteArray, ∃ l121 : List (List PV), ∃ l122 : List (List PV), IdxN l95 1 [i115, i116, i117, i118, l119, s120, l121, l122]
  (∃ b123 : Bool, CallN Tryz.prog 15 [(.agg [i115, i116, i117, i118, l119, s120, l121, l122]), (.agg [i77, i78, i79, i80, l81, s82, l83, l84])] [[i6, i7, i8, i9, l10, s11, l12, l13], [i14, i15, i16], [i17, i18, i19, i20, l21, s22, l23, l24], [i25, i26, i27], [i77, i78, i79, i80, l81, s82, l83, l84], [i85, i86, i87], [.tip], [i89, i90, i91, i92, l93, s94, l95, l96], [i97, i98, i99]] b123
  (br (b123)
  (∃ b124 : Bool, CallN Tryz.prog 7 [] [[i6, i7, i8, i9, l10, s11, l12, l13], [i14, i15, i16], [i17, i18, i19, i20, l21, s22, l23, l24], [i25, i26, i27], [i77, i78, i79, i80, l81, s82, l83, l84], [i85, i86, i87], [.tip], [i89, i90, i91, i92, l93, s94, l95, l96], [i97, i98, i99]] b124
  (Q b124 [[i6, i7, i8, i9, l10, s11, l12, l13], [i14, i15, i16], [i17, i18, i19, i20, l21, s22, l23, l24], [i25, i26, i27], [i77, i78, i79, i80, l81, s82, l83, l84], [i85, i86, i87], [.tip], [i89, i90, i91, i92, l93, s94, l95, l96], [i97, i98, i99]]))
  (Q (.con (.bool false)) [[i6, i7, i8, i9, l10, s11, l12, l13], [i14, i15, i16], [i17, i18, i19, i20, l21, s22, l23, l24], [i25, i26, i27], [i77, i78, i79, i80, l81, s82, l83, l84], [i85, i86, i87], [.tip], [i89, i90, i91, i92, l93, s94, l95, l96], [i97, i98, i99]]))))
  (Q (.con (.bool false)) [[i6, i7, i8, i9, l10, s11, l12, l13], [i14, i15, i16], [i17, i18, i19, i20, l21, s22, l23, l24], [i25, i26, i27], [i77, i78, i79, i80, l81, s82, l83, l84], [i85, i86, i87], [.tip], [i89, i90, i91, i92, l93, s94, l95, l96], [i97, i98, i99]]))))
  (Q (.con (.bool false)) [[i6, i7, i8, i9, l10, s11, l12, l13], [i14, i15, i16], [i17, i18, i19, i20, l21, s22, l23, l24], [i25, i26, i27], [i77, i78, i79, i80, l81, s82, l83, l84], [i85, i86, i87], [.tip], [i89, i90, i91, i92, l93, s94, l95, l96], [i97, i98, i99]]))
  (Q (.con (.bool false)) [[i6, i7, i8, i9, l10, s11, l12, l13], [i14, i15, i16], [i17, i18, i19, i20, l21, s22, l23, l24], [i25, i26, i27], [i77, i78, i79, i80, l81, s82, l83, l84], [i85, i86, i87], [.tip], [i89, i90, i91, i92, l93, s94, l95, l96], [i97, i98, i99]]))
  (Q (.con (.bool false)) [[i6, i7, i8, i9, l10, s11, l12, l13], [i14, i15, i16], [i17, i18, i19, i20, l21, s22, l23, l24], [i25, i26, i27], [i77, i78, i79, i80, l81, s82, l83, l84], [i85, i86, i87], [.tip], [i89, i90, i91, i92, l93, s94, l95, l96], [i97, i98, i99]]))
  (Q (.con (.bool false)) [[i6, i7, i8, i9, l10, s11, l12, l13], [i14, i15, i16], [i17, i18, i19, i20, l21, s22, l23, l24], [i25, i26, i27], [i77, i78, i79, i80, l81, s82, l83, l84], [i85, i86, i87], [.tip], [i89, i90, i91, i92, l93, s94, l95, l96], [i97, i98, i99]])))))))))))))))))))))))
theorem a6 (s1 s2 : ByteArray) (i3 : Int) (Q : PV → Heap → Prop) (h : p6 s1 s2 i3 Q) : ACalls Tryz.prog 6 [s1, s2, (.con (.int .u8 i3))] [] Q := by
  have hb : Option.some (bodyOf Tryz.f6) = Tryz.f6.body := by kernel_rfl
  exact acalls_eq (S := S) (L := loops60) mixed tok Tryz.func6 hb.symm (by kernel_rfl) h
end Go.Proofs.YtjhnmikciejekaaGreat.Deep

namespace Go.Proofs.YtjhnmikciejekaaGreat.Deep
open Go.RowKit
set_option linter.unusedVariables false
set_option linter.unusedSimpArgs false
theorem lexK_len {s : ByteArray} {l : List Tk} {z : Tk} (h : lexK s = .ok (l, z)) : l.length ≤ 4096 := by
  cases hx : lexOf s with
  | inl e => obtain ⟨e, L, C⟩ := e; simp only [lexK, hx] at h; cases h
  | inr T =>
    obtain ⟨U, e, rfl, hk, hn⟩ := lexOf_ends hx
    simp only [lexK, hx] at h
    injection h with h; injection h with h _
    rw [← h]; simpa using hn
theorem face_gd {s : ByteArray} {e : Ex} (h : faceS rdE s = .ok e) : gdE e := by
  obtain ⟨l, z, l1, b1, h1, h2, h3⟩ := face_out h
  have := lexK_len h1
  exact (good_E _ l false (by omega) _ _ _ h2).2
theorem face_nz {s : ByteArray} (hs : s.size ≤ 9223372036854775807) {f : Flt} (h : faceS rdE s = .error f) : f.e ≠ 0 := by
  unfold faceS at h
  split at h
  · rename_i q hq
    injection h with h; subst h
    obtain ⟨e, w', fr, hl, _⟩ := lex_raw s hs (World.settled Tryz.prog default) []
    rcases hl with ⟨er, L, C, h1, h2, _⟩ | ⟨A, n, c, ps, h1, _⟩
    · simp only [lexK, h1] at hq
      injection hq with hq; subst hq; exact h2
    · simp only [lexK, h1] at hq; cases hq
  · rename_i l z hl
    split at h
    · rename_i q hq
      injection h with h; subst h
      exact nz_E _ _ _ _ hq
    · split at h
      · rename_i q hq
        injection h with h; subst h
        unfold wantEndS at hq
        rcases ifB_cases hq with ⟨h1, h2⟩ | ⟨h1, h2⟩
        · injection h2 with h2; subst h2; show (7 : Int) ≠ 0; decide
        · cases h2
      · cases h
theorem faceE_ok {s : ByteArray} (hs : s.size ≤ 9223372036854775807) {e : Ex} (h : faceS rdE s = .ok e) : PCalls Tryz.prog 11 [.con (.string s)] (fun r => r = .tup [.agg (exP e), .agg [.con (.int .i64 0), .con (.int .i64 0), .con (.int .i64 0)]]) := by
  have c := expr_p s hs
  have : faceE s = .tup [.agg (exP e), .agg [.con (.int .i64 0), .con (.int .i64 0), .con (.int .i64 0)]] := by
    show faceR _ _ (faceS rdE s) = _
    rw [h]; rfl
  rw [this] at c; exact c
theorem faceE_err {s : ByteArray} (hs : s.size ≤ 9223372036854775807) {f : Flt} (h : faceS rdE s = .error f) : PCalls Tryz.prog 11 [.con (.string s)] (fun r => r = .tup [zeroE, .agg [.con (.int .i64 f.e), .con (.int .i64 f.li), .con (.int .i64 f.co)]]) := by
  have c := expr_p s hs
  have : faceE s = .tup [zeroE, .agg [.con (.int .i64 f.e), .con (.int .i64 f.li), .con (.int .i64 f.co)]] := by
    show faceR _ _ (faceS rdE s) = _
    rw [h]; rfl
  rw [this] at c; exact c
theorem faceE_any (s : ByteArray) (hs : s.size ≤ 9223372036854775807) : ∃ (a b c d : Int) (l : List (List PV)) (n : ByteArray) (l2 l3 : List (List PV)) (e li co : Int), PCalls Tryz.prog 11 [.con (.string s)] (fun r => r = .tup [.agg [.con (.int .i64 a), .con (.int .i64 b), .con (.int .i64 c), .con (.int .i64 d), .sl l, .con (.string n), .sl l2, .sl l3], .agg [.con (.int .i64 e), .con (.int .i64 li), .con (.int .i64 co)]]) := by
  cases h : faceS rdE s with
  | ok e => obtain ⟨k, li, co, m, y, n, ks, ps, bs⟩ := e; exact ⟨_, _, _, _, _, _, _, _, _, _, _, faceE_ok hs h⟩
  | error f => exact ⟨_, _, _, _, _, _, _, _, _, _, _, faceE_err hs h⟩
theorem cat_1 (s : ByteArray) : ((⟨#[40]⟩ ++ s) ++ ⟨#[10, 41]⟩ : ByteArray).data.toList = 40 :: (s.data.toList ++ [10, 41]) := by
  simp [ByteArray.data_append]
theorem cat_2 (s t p : ByteArray) (b : List UInt8) (hp : p.data.toList = b) : ((((((⟨#[40]⟩ ++ s) ++ ⟨#[10, 41, 32]⟩) ++ p) ++ ⟨#[32, 40]⟩) ++ t) ++ ⟨#[10, 41]⟩ : ByteArray).data.toList = 40 :: (s.data.toList ++ 10 :: (41 :: 32 :: (b ++ 32 :: 40 :: (t.data.toList ++ [10, 41])))) := by
  subst hp
  simp [ByteArray.data_append]
theorem en_same : Enters Tryz.prog 15 := enters_of Tryz.func15 (by kernel_rfl) rfl
theorem tmod_8 (i : Int) (h0 : 0 ≤ i) (h1 : i ≤ 255) : ∃ k : Nat, k < 8 ∧ Int.tmod (IntKind.i64.wrap i) 8 = (k : Int) := by
  rw [wrap_id (by omega) (by omega)]
  refine ⟨(i % 8).toNat, by omega, ?_⟩
  rw [Int.tmod_eq_emod_of_nonneg h0]; omega
theorem op_idx (k : Nat) (hk : k < 8) : ∃ p : ByteArray, [[PV.con (.string ⟨#[43]⟩)], [.con (.string ⟨#[45]⟩)], [.con (.string ⟨#[42]⟩)], [.con (.string ⟨#[47]⟩)], [.con (.string ⟨#[37]⟩)], [.con (.string ⟨#[60]⟩)], [.con (.string ⟨#[60, 61]⟩)], [.con (.string ⟨#[61, 61]⟩)]][((k : Int)).toNat]? = some [.con (.string p)] ∧ p.data.toList = opB k ∧ p.size ≤ 2 := by
  match k, hk with
  | 0, _ => exact ⟨_, rfl, rfl, by decide⟩
  | 1, _ => exact ⟨_, rfl, rfl, by decide⟩
  | 2, _ => exact ⟨_, rfl, rfl, by decide⟩
  | 3, _ => exact ⟨_, rfl, rfl, by decide⟩
  | 4, _ => exact ⟨_, rfl, rfl, by decide⟩
  | 5, _ => exact ⟨_, rfl, rfl, by decide⟩
  | 6, _ => exact ⟨_, rfl, rfl, by decide⟩
  | 7, _ => exact ⟨_, rfl, rfl, by decide⟩
end Go.Proofs.YtjhnmikciejekaaGreat.Deep

namespace Go.Proofs.YtjhnmikciejekaaGreat.Deep
open Go.RowKit
set_option linter.unusedVariables false
set_option linter.unusedSimpArgs false
theorem same_yes {a b : Ex} (ha : gdE a) (hb : gdE b) (h : bareE a = bareE b) : PCalls Tryz.prog 15 [.agg (exP a), .agg (exP b)] (fun r => r = .con (.bool true)) := by
  have c := rsame_ex a ha b hb
  rw [(sameE_iff a b).2 h] at c; exact c
set_option maxHeartbeats 1000000 in
theorem parens_p (s t : ByteArray) (i : Int) (hi0 : 0 ≤ i) (hi1 : i ≤ 255) : PCalls Tryz.prog 6 [.con (.string s), .con (.string t), .con (.int .u8 i)] (fun r => r = .con (.bool true)) := by
  refine a6 s t i _ ?_
  unfold p6
  refine br_i (fun _ => ⟨true, call_p en_awake awake_p rfl ⟨rfl, rfl⟩⟩) (fun h1 => ?_)
  refine br_i (fun _ => ⟨true, call_p en_awake awake_p rfl ⟨rfl, rfl⟩⟩) (fun h2 => ?_)
  have hs : s.size ≤ 800 := by
    simp only [gt_iff_lt, decide_eq_false_iff_not, Int.not_lt] at h1; omega
  have ht : t.size ≤ 800 := by
    simp only [gt_iff_lt, decide_eq_false_iff_not, Int.not_lt] at h2; omega
  obtain ⟨k, hk, hk2⟩ := tmod_8 i hi0 hi1
  obtain ⟨p, hp1, hp2, hp3⟩ := op_idx k hk
  rw [hk2]
  have z1 : (⟨#[40]⟩ : ByteArray).size = 1 := rfl
  have z2 : (⟨#[10, 41]⟩ : ByteArray).size = 2 := rfl
  have z3 : (⟨#[10, 41, 32]⟩ : ByteArray).size = 3 := rfl
  have z4 : (⟨#[32, 40]⟩ : ByteArray).size = 2 := rfl
  obtain ⟨X1, hX1⟩ : ∃ X : ByteArray, X = (⟨#[40]⟩ ++ s) ++ ⟨#[10, 41]⟩ := ⟨_, rfl⟩
  obtain ⟨X2, hX2⟩ : ∃ X : ByteArray, X = (((((⟨#[40]⟩ ++ s) ++ ⟨#[10, 41, 32]⟩) ++ p) ++ ⟨#[32, 40]⟩) ++ t) ++ ⟨#[10, 41]⟩ := ⟨_, rfl⟩
  have y1 : X1.data.toList = 40 :: (s.data.toList ++ [10, 41]) := by rw [hX1]; exact cat_1 s
  have y2 : X2.data.toList = 40 :: (s.data.toList ++ 10 :: (41 :: 32 :: (opB k ++ 32 :: 40 :: (t.data.toList ++ [10, 41])))) := by rw [hX2]; exact cat_2 s t p _ hp2
  have n1 : X1.size ≤ 9223372036854775807 := by rw [hX1]; simp only [ByteArray.size_append]; omega
  have n2 : X2.size ≤ 9223372036854775807 := by rw [hX2]; simp only [ByteArray.size_append]; omega
  rw [← hX1]
  have cats : ∀ {Y : Prop}, Y → CatN ⟨#[40]⟩ s (CatN (⟨#[40]⟩ ++ s) ⟨#[10, 41]⟩ Y) := fun hy => ⟨by omega, ⟨by simp only [ByteArray.size_append]; omega, hy⟩⟩
  cases hfs : faceS rdE s with
  | error f =>
    have hne := face_nz (by omega) hfs
    refine ⟨0, 0, 0, 0, [], e0, [], [], f.e, f.li, f.co, call_p en_Expr (faceE_err (by omega) hfs) rfl (cats ?_)⟩
    obtain ⟨_, _, _, _, _, _, _, _, _, _, _, cX⟩ := faceE_any X1 n1
    refine ⟨_, _, _, _, _, _, _, _, _, _, _, call_p en_Expr cX rfl ?_⟩
    refine br_i (fun h => absurd (by simpa using h) hne) (fun _ => ?_)
    obtain ⟨_, _, _, _, _, _, _, _, _, _, _, cT⟩ := faceE_any t (by omega)
    refine ⟨_, _, _, _, _, _, _, _, _, _, _, call_p en_Expr cT rfl ?_⟩
    refine ⟨by omega, ⟨by simp only [ByteArray.size_append]; omega, p, ⟨by omega, hp1, ⟨by simp only [ByteArray.size_append]; omega, ⟨by simp only [ByteArray.size_append]; omega, ⟨by simp only [ByteArray.size_append]; omega, ⟨by simp only [ByteArray.size_append]; omega, ?_⟩⟩⟩⟩⟩⟩⟩
    rw [← hX2]
    obtain ⟨_, _, _, _, _, _, _, _, _, _, _, cX2⟩ := faceE_any X2 n2
    refine ⟨_, _, _, _, _, _, _, _, _, _, _, call_p en_Expr cX2 rfl ?_⟩
    refine br_i (fun _ => ⟨true, call_p en_awake awake_p rfl ⟨rfl, rfl⟩⟩) (fun h => absurd (by simpa using h) hne)
  | ok a =>
    have ga := face_gd hfs
    obtain ⟨a', hf1, ha'⟩ := parens_one hs hfs y1
    have ga' := face_gd hf1
    have cSame := same_yes ga ga' ha'
    have cDeep := deep_p a ga
    have cS := faceE_ok (by omega : s.size ≤ 9223372036854775807) hfs
    have cX := faceE_ok n1 hf1
    have hboth : ∀ c : Ex, faceS rdE t = .ok c → depE a ≤ 63 → depE c ≤ 63 → _ := fun c hc d1 d2 => parens_two hs ht hfs hc k hk d1 d2 y2
    obtain ⟨ak, ali, aco, am, ay, an, aks, aps, abs⟩ := a
    obtain ⟨bk, bli, bco, bm, by', bn, bks, bps, bbs⟩ := a'
    refine ⟨ak, ali, aco, am, byP ay, an, exPs aks, arPs abs aps, 0, 0, 0, call_p en_Expr cS rfl (cats ?_)⟩
    refine ⟨bk, bli, bco, bm, byP by', bn, exPs bks, arPs bbs bps, 0, 0, 0, call_p en_Expr cX rfl ?_⟩
    refine brT rfl (br_i (fun h => absurd h (by decide)) (fun _ => ?_))
    refine ⟨true, call_p en_same cSame rfl ?_⟩
    refine br_i (fun h => absurd h (by decide)) (fun _ => ?_)
    cases hft : faceS rdE t with
    | error f =>
      have hne := face_nz (by omega) hft
      refine ⟨0, 0, 0, 0, [], e0, [], [], f.e, f.li, f.co, call_p en_Expr (faceE_err (by omega) hft) rfl ?_⟩
      refine ⟨by omega, ⟨by simp only [ByteArray.size_append]; omega, p, ⟨by omega, hp1, ⟨by simp only [ByteArray.size_append]; omega, ⟨by simp only [ByteArray.size_append]; omega, ⟨by simp only [ByteArray.size_append]; omega, ⟨by simp only [ByteArray.size_append]; omega, ?_⟩⟩⟩⟩⟩⟩⟩
      rw [← hX2]
      obtain ⟨_, _, _, _, _, _, _, _, _, _, _, cX2⟩ := faceE_any X2 n2
      refine ⟨_, _, _, _, _, _, _, _, _, _, _, call_p en_Expr cX2 rfl ?_⟩
      refine br_i (fun h => absurd h (by decide)) (fun _ => ?_)
      refine br_i (fun _ => ⟨true, call_p en_awake awake_p rfl ⟨rfl, rfl⟩⟩) (fun h => absurd (by simpa using h) hne)
    | ok c =>
      have gc := face_gd hft
      have cT := faceE_ok (by omega : t.size ≤ 9223372036854775807) hft
      have cDeep2 := deep_p c gc
      obtain ⟨ck, cli, cco, cm, cy, cn, cks, cps, cbs⟩ := c
      refine ⟨ck, cli, cco, cm, byP cy, cn, exPs cks, arPs cbs cps, 0, 0, 0, call_p en_Expr cT rfl ?_⟩
      refine ⟨by omega, ⟨by simp only [ByteArray.size_append]; omega, p, ⟨by omega, hp1, ⟨by simp only [ByteArray.size_append]; omega, ⟨by simp only [ByteArray.size_append]; omega, ⟨by simp only [ByteArray.size_append]; omega, ⟨by simp only [ByteArray.size_append]; omega, ?_⟩⟩⟩⟩⟩⟩⟩
      rw [← hX2]
      by_cases hd : depE (.mk ak ali aco am ay an aks aps abs) ≤ 63 ∧ depE (.mk ck cli cco cm cy cn cks cps cbs) ≤ 63
      · obtain ⟨d1, d2⟩ := hd
        obtain ⟨li, co, a2, c2, hf2, ha2, hc2⟩ := hboth _ hft d1 d2
        have g2 := face_gd hf2
        have cX2 := faceE_ok n2 hf2
        unfold gdE at g2
        obtain ⟨_, _, _, g3, _, _⟩ := g2
        have ga2 : gdE a2 := gdEs_at _ g3 0 (by simp)
        have gc2 : gdE c2 := gdEs_at _ g3 1 (by simp)
        have s1 := same_yes ga2 ga ha2.symm
        have s2 := same_yes gc2 gc hc2.symm
        obtain ⟨xk, xli, xco, xm, xy, xn, xks, xps, xbs⟩ := a2
        obtain ⟨wk, wli, wco, wm, wy, wn, wks, wps, wbs⟩ := c2
        refine ⟨9, li, co, k, [], e0, exPs [.mk xk xli xco xm xy xn xks xps xbs, .mk wk wli wco wm wy wn wks wps wbs], [], 0, 0, 0, call_p en_Expr cX2 rfl ?_⟩
        refine br_i (fun h => absurd h (by decide)) (fun _ => ?_)
        refine br_i (fun h => absurd h (by decide)) (fun _ => ?_)
        refine ⟨_, call_p en_deep cDeep rfl ?_⟩
        refine br_i (fun h => absurd (by simpa using h) (by omega : ¬ (64 : Int) ≤ depE (.mk ak ali aco am ay an aks aps abs))) (fun _ => ?_)
        refine ⟨_, call_p en_deep cDeep2 rfl ?_⟩
        refine br_i (fun h => absurd (by simpa using h) (by omega : ¬ (64 : Int) ≤ depE (.mk ck cli cco cm cy cn cks cps cbs))) (fun _ => ?_)
        refine brT rfl (brT rfl (brT (by simp) (brT rfl ?_)))
        refine ⟨_, _, _, _, _, _, _, _, ⟨by decide, rfl, ?_⟩⟩
        refine ⟨true, call_p en_same s1 rfl (brT rfl ?_)⟩
        refine ⟨_, _, _, _, _, _, _, _, ⟨by decide, rfl, ?_⟩⟩
        refine ⟨true, call_p en_same s2 rfl (brT rfl ?_)⟩
        exact ⟨true, call_p en_awake awake_p rfl ⟨rfl, rfl⟩⟩
      · obtain ⟨_, _, _, _, _, _, _, _, _, _, _, cX2⟩ := faceE_any X2 n2
        refine ⟨_, _, _, _, _, _, _, _, _, _, _, call_p en_Expr cX2 rfl ?_⟩
        refine br_i (fun h => absurd h (by decide)) (fun _ => ?_)
        refine br_i (fun h => absurd h (by decide)) (fun _ => ?_)
        refine ⟨_, call_p en_deep cDeep rfl ?_⟩
        refine br_i (fun _ => ⟨true, call_p en_awake awake_p rfl ⟨rfl, rfl⟩⟩) (fun h3 => ?_)
        refine ⟨_, call_p en_deep cDeep2 rfl ?_⟩
        refine br_i (fun _ => ⟨true, call_p en_awake awake_p rfl ⟨rfl, rfl⟩⟩) (fun h4 => ?_)
        simp only [ge_iff_le, decide_eq_false_iff_not, Int.not_le] at h3 h4
        exact absurd ⟨by omega, by omega⟩ hd
end Go.Proofs.YtjhnmikciejekaaGreat.Deep
