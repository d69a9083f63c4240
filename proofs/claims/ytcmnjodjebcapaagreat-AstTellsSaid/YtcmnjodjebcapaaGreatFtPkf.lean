/-
  Texts of one proof, in their order. No condition.
-/
import Derived.Test.YtcmnjodjebcapaaGreatFtPke
namespace Go.Proofs.YtcmnjodjebcapaaGreat.Deep
open Go.RowKit
set_option linter.unusedVariables false
def loops4 (id : Nat) : Option (List Nat × List (Nat × Sh)) := match Nat.beq id 10 with | true => some ([4, 5, 6, 7, 14, 15, 78], [(79, .int .i64)]) | false => none
def p4 (l1 l2 : List (List PV)) (i3 i4 i5 : Int) (s6 : ByteArray) (l7 : List (List PV)) (i8 i9 i10 i11 i12 : Int) (l13 : List (List PV)) (s14 : ByteArray) (l15 l16 l17 l18 l19 : List (List PV)) (i20 i21 i22 : Int) (s23 : ByteArray) (l24 : List (List PV)) (i25 i26 i27 i28 i29 : Int) (l30 : List (List PV)) (s31 : ByteArray) (l32 l33 l34 : List (List PV)) (i35 i36 i37 i38 : Int) (l39 : List (List PV)) (s40 : ByteArray) (l41 l42 : List (List PV)) (i43 i44 i45 i46 : Int) (l47 : List (List PV)) (s48 : ByteArray) (l49 l50 : List (List PV)) (Q : PV → Heap → Prop) : Prop :=
∃ b51 : Bool, CallN Tryz.prog 7 [(.agg [l1, l2, i3, i4, i5, s6, l7, i8, i9, i10, i11, i12, l13, s14, l15, l16, l17])] [[l1, l2, i3, i4, i5, s6, l7, i8, i9, i10, i11, i12, l13, s14, l15, l16, l17], [l18, l19, i20, i21, i22, s23, l24, i25, i26, i27, i28, i29, l30, s31, l32, l33, l34], [i35, i36, i37, i38, l39, s40, l41, l42], [i43, i44, i45, i46, l47, s48, l49, l50]] b51
  (br ((!b51))
  (∃ b52 : Bool, CallN Tryz.prog 11 [] [[l1, l2, i3, i4, i5, s6, l7, i8, i9, i10, i11, i12, l13, s14, l15, l16, l17], [l18, l19, i20, i21, i22, s23, l24, i25, i26, i27, i28, i29, l30, s31, l32, l33, l34], [i35, i36, i37, i38, l39, s40, l41, l42], [i43, i44, i45, i46, l47, s48, l49, l50]] b52
  (Q b52 [[l1, l2, i3, i4, i5, s6, l7, i8, i9, i10, i11, i12, l13, s14, l15, l16, l17], [l18, l19, i20, i21, i22, s23, l24, i25, i26, i27, i28, i29, l30, s31, l32, l33, l34], [i35, i36, i37, i38, l39, s40, l41, l42], [i43, i44, i45, i46, l47, s48, l49, l50]]))
  (∃ b53 : Bool, CallN Tryz.prog 7 [(.agg [l18, l19, i20, i21, i22, s23, l24, i25, i26, i27, i28, i29, l30, s31, l32, l33, l34])] [[l1, l2, i3, i4, i5, s6, l7, i8, i9, i10, i11, i12, l13, s14, l15, l16, l17], [l18, l19, i20, i21, i22, s23, l24, i25, i26, i27, i28, i29, l30, s31, l32, l33, l34], [i35, i36, i37, i38, l39, s40, l41, l42], [i43, i44, i45, i46, l47, s48, l49, l50]] b53
  (br ((!b53))
  (∃ b54 : Bool, CallN Tryz.prog 11 [] [[l1, l2, i3, i4, i5, s6, l7, i8, i9, i10, i11, i12, l13, s14, l15, l16, l17], [l18, l19, i20, i21, i22, s23, l24, i25, i26, i27, i28, i29, l30, s31, l32, l33, l34], [i35, i36, i37, i38, l39, s40, l41, l42], [i43, i44, i45, i46, l47, s48, l49, l50]] b54
  (Q b54 [[l1, l2, i3, i4, i5, s6, l7, i8, i9, i10, i11, i12, l13, s14, l15, l16, l17], [l18, l19, i20, i21, i22, s23, l24, i25, i26, i27, i28, i29, l30, s31, l32, l33, l34], [i35, i36, i37, i38, l39, s40, l41, l42], [i43, i44, i45, i46, l47, s48, l49, l50]]))
  (∃ i55 : Int, CallN Tryz.prog 8 [(.agg [i35, i36, i37, i38, l39, s40, l41, l42]), (.con (.int .i64 3000))] [[l1, l2, i3, i4, i5, s6, l7, i8, i9, i10, i11, i12, l13, s14, l15, l16, l17], [l18, l19, i20, i21, i22, s23, l24, i25, i26, i27, i28, i29, l30, s31, l32, l33, l34], [i35, i36, i37, i38, l39, s40, l41, l42], [i43, i44, i45, i46, l47, s48, l49, l50]] i55
  (br ((decide ((i55 : Int) < 0)))
  (∃ b56 : Bool, CallN Tryz.prog 11 [] [[l1, l2, i3, i4, i5, s6, l7, i8, i9, i10, i11, i12, l13, s14, l15, l16, l17], [l18, l19, i20, i21, i22, s23, l24, i25, i26, i27, i28, i29, l30, s31, l32, l33, l34], [i35, i36, i37, i38, l39, s40, l41, l42], [i43, i44, i45, i46, l47, s48, l49, l50]] b56
  (Q b56 [[l1, l2, i3, i4, i5, s6, l7, i8, i9, i10, i11, i12, l13, s14, l15, l16, l17], [l18, l19, i20, i21, i22, s23, l24, i25, i26, i27, i28, i29, l30, s31, l32, l33, l34], [i35, i36, i37, i38, l39, s40, l41, l42], [i43, i44, i45, i46, l47, s48, l49, l50]]))
  (∃ i57 : Int, CallN Tryz.prog 8 [(.agg [i43, i44, i45, i46, l47, s48, l49, l50]), (.con (.int .i64 3000))] [[l1, l2, i3, i4, i5, s6, l7, i8, i9, i10, i11, i12, l13, s14, l15, l16, l17], [l18, l19, i20, i21, i22, s23, l24, i25, i26, i27, i28, i29, l30, s31, l32, l33, l34], [i35, i36, i37, i38, l39, s40, l41, l42], [i43, i44, i45, i46, l47, s48, l49, l50]] i57
  (br ((decide ((i57 : Int) < 0)))
  (∃ b58 : Bool, CallN Tryz.prog 11 [] [[l1, l2, i3, i4, i5, s6, l7, i8, i9, i10, i11, i12, l13, s14, l15, l16, l17], [l18, l19, i20, i21, i22, s23, l24, i25, i26, i27, i28, i29, l30, s31, l32, l33, l34], [i35, i36, i37, i38, l39, s40, l41, l42], [i43, i44, i45, i46, l47, s48, l49, l50]] b58
  (Q b58 [[l1, l2, i3, i4, i5, s6, l7, i8, i9, i10, i11, i12, l13, s14, l15, l16, l17], [l18, l19, i20, i21, i22, s23, l24, i25, i26, i27, i28, i29, l30, s31, l32, l33, l34], [i35, i36, i37, i38, l39, s40, l41, l42], [i43, i44, i45, i46, l47, s48, l49, l50]]))
  (∃ l59 : List (List PV), ∃ l60 : List (List PV), ∃ i61 : Int, ∃ i62 : Int, ∃ i63 : Int, ∃ s64 : ByteArray, ∃ l65 : List (List PV), ∃ i66 : Int, ∃ i67 : Int, ∃ i68 : Int, ∃ i69 : Int, ∃ i70 : Int, ∃ l71 : List (List PV), ∃ s72 : ByteArray, ∃ l73 : List (List PV), ∃ l74 : List (List PV), ∃ l75 : List (List PV), CallN Tryz.prog 20 [(.agg [l1, l2, i3, i4, i5, s6, l7, i8, i9, i10, i11, i12, l13, s14, l15, l16, l17])] [[l1, l2, i3, i4, i5, s6, l7, i8, i9, i10, i11, i12, l13, s14, l15, l16, l17], [l18, l19, i20, i21, i22, s23, l24, i25, i26, i27, i28, i29, l30, s31, l32, l33, l34], [i35, i36, i37, i38, l39, s40, l41, l42], [i43, i44, i45, i46, l47, s48, l49, l50]] (.agg [l59, l60, i61, i62, i63, s64, l65, i66, i67, i68, i69, i70, l71, s72, l73, l74, l75])
  (∃ i76 : Int, ∃ i77 : Int, CallN Tryz.prog 21 [(.agg [i35, i36, i37, i38, l39, s40, l41, l42])] [[l1, l2, i3, i4, i5, s6, l7, i8, i9, i10, i11, i12, l13, s14, l15, l16, l17], [l18, l19, i20, i21, i22, s23, l24, i25, i26, i27, i28, i29, l30, s31, l32, l33, l34], [i35, i36, i37, i38, l39, s40, l41, l42], [i43, i44, i45, i46, l47, s48, l49, l50], [l59, l60, i61, i62, i63, s64, l65, i66, i67, i68, i69, i70, l71, s72, l73, l74, l75]] (.tup [i76, i77])
  (∃ i78 : Int, ∃ i79 : Int, CallN Tryz.prog 22 [(.agg [i35, i36, i37, i38, l39, s40, l41, l42])] [[l1, l2, i3, i4, i5, s6, l7, i8, i9, i10, i11, i12, l13, s14, l15, l16, l17], [l18, l19, i20, i21, i22, s23, l24, i25, i26, i27, i28, i29, l30, s31, l32, l33, l34], [i35, i36, i37, i38, l39, s40, l41, l42], [i43, i44, i45, i46, l47, s48, l49, l50], [l59, l60, i61, i62, i63, s64, l65, i66, i67, i68, i69, i70, l71, s72, l73, l74, l75]] (.tup [i78, i79])
  (∃ l80 : List (List PV), CallN Tryz.prog 23 [(.agg [i35, i36, i37, i38, l39, s40, l41, l42])] [[l1, l2, i3, i4, i5, s6, l7, i8, i9, i10, i11, i12, l13, s14, l15, l16, l17], [l18, l19, i20, i21, i22, s23, l24, i25, i26, i27, i28, i29, l30, s31, l32, l33, l34], [i35, i36, i37, i38, l39, s40, l41, l42], [i43, i44, i45, i46, l47, s48, l49, l50], [l59, l60, i61, i62, i63, s64, l65, i66, i67, i68, i69, i70, l71, s72, l73, l74, l75]] l80
  (∃ l81 : List (List PV), CallN Tryz.prog 24 [(.agg [i35, i36, i37, i38, l39, s40, l41, l42])] [[l1, l2, i3, i4, i5, s6, l7, i8, i9, i10, i11, i12, l13, s14, l15, l16, l17], [l18, l19, i20, i21, i22, s23, l24, i25, i26, i27, i28, i29, l30, s31, l32, l33, l34], [i35, i36, i37, i38, l39, s40, l41, l42], [i43, i44, i45, i46, l47, s48, l49, l50], [l59, l60, i61, i62, i63, s64, l65, i66, i67, i68, i69, i70, l71, s72, l73, l74, l75]] l81
  (br ((((List.length l80 : Int) : Int) != (List.length l81 : Int)))
  (Q (.con (.bool false)) [[l1, l2, i3, i4, i5, s6, l7, i8, i9, i10, i11, i12, l13, s14, l15, l16, l17], [l18, l19, i20, i21, i22, s23, l24, i25, i26, i27, i28, i29, l30, s31, l32, l33, l34], [i35, i36, i37, i38, l39, s40, l41, l42], [i43, i44, i45, i46, l47, s48, l49, l50], [l59, l60, i61, i62, i63, s64, l65, i66, i67, i68, i69, i70, l71, s72, l73, l74, l75]])
  (br (((i76 : Int) != i78))
  (Q (.con (.bool false)) [[l1, l2, i3, i4, i5, s6, l7, i8, i9, i10, i11, i12, l13, s14, l15, l16, l17], [l18, l19, i20, i21, i22, s23, l24, i25, i26, i27, i28, i29, l30, s31, l32, l33, l34], [i35, i36, i37, i38, l39, s40, l41, l42], [i43, i44, i45, i46, l47, s48, l49, l50], [l59, l60, i61, i62, i63, s64, l65, i66, i67, i68, i69, i70, l71, s72, l73, l74, l75]])
  (br (((i77 : Int) != i79))
  (Q (.con (.bool false)) [[l1, l2, i3, i4, i5, s6, l7, i8, i9, i10, i11, i12, l13, s14, l15, l16, l17], [l18, l19, i20, i21, i22, s23, l24, i25, i26, i27, i28, i29, l30, s31, l32, l33, l34], [i35, i36, i37, i38, l39, s40, l41, l42], [i43, i44, i45, i46, l47, s48, l49, l50], [l59, l60, i61, i62, i63, s64, l65, i66, i67, i68, i69, i70, l71, s72, l73, l74, l75]])
  (∃ b82 : Bool, CallN Tryz.prog 25 [(.agg [l59, l60, i61, i62, i63, s64, l65, i66, i67, i68, i69, i70, l71, s72, l73, l74, l75])] [[l1, l2, i3, i4, i5, s6, l7, i8, i9, i10, i11, i12, l13, s14, l15, l16, l17], [l18, l19, i20, i21, i22, s23, l24, i25, i26, i27, i28, i29, l30, s31, l32, l33, l34], [i35, i36, i37, i38, l39, s40, l41, l42], [i43, i44, i45, i46, l47, s48, l49, l50], [l59, l60, i61, i62, i63, s64, l65, i66, i67, i68, i69, i70, l71, s72, l73, l74, l75]] b82
  (br (b82)
  (Q (.con (.bool false)) [[l1, l2, i3, i4, i5, s6, l7, i8, i9, i10, i11, i12, l13, s14, l15, l16, l17], [l18, l19, i20, i21, i22, s23, l24, i25, i26, i27, i28, i29, l30, s31, l32, l33, l34], [i35, i36, i37, i38, l39, s40, l41, l42], [i43, i44, i45, i46, l47, s48, l49, l50], [l59, l60, i61, i62, i63, s64, l65, i66, i67, i68, i69, i70, l71, s72, l73, l74, l75]])
  (∃ b83 : Bool, CallN Tryz.prog 26 [(.agg [l59, l60, i61, i62, i63, s64, l65, i66, i67, i68, i69, i70, l71, s72, l73, l74, l75]), (.agg [l1, l2, i3, i4, i5, s6, l7, i8, i9, i10, i11, i12, l13, s14, l15, l16, l17])] [[l1, l2, i3, i4, i5, s6, l7, i8, i9, i10, i11, i12, l13, s14, l15, l16, l17], [l18, l19, i20, i21, i22, s23, l24, i25, i26, i27, i28, i29, l30, s31, l32, l33, l34], [i35, i36, i37, i38, l39, s40, l41, l42], [i43, i44, i45, i46, l47, s48, l49, l50], [l59, l60, i61, i62, i63, s64, l65, i66, i67, i68, i69, i70, l71, s72, l73, l74, l75]] b83
  (br ((!b83))
  (Q (.con (.bool false)) [[l1, l2, i3, i4, i5, s6, l7, i8, i9, i10, i11, i12, l13, s14, l15, l16, l17], [l18, l19, i20, i21, i22, s23, l24, i25, i26, i27, i28, i29, l30, s31, l32, l33, l34], [i35, i36, i37, i38, l39, s40, l41, l42], [i43, i44, i45, i46, l47, s48, l49, l50], [l59, l60, i61, i62, i63, s64, l65, i66, i67, i68, i69, i70, l71, s72, l73, l74, l75]])
  (∃ I84 : Nat → ((Int) × Unit) → Prop, (∃ n, I84 n (0, ())) ∧ ∀ (n85 : Nat) (v86 : (Int) × Unit), I84 n85 v86 →
  (br ((decide ((v86.1 : Int) < (List.length l80 : Int))))
  (∃ s87 : ByteArray, IdxN l80 v86.1 [s87]
  (∃ s88 : ByteArray, IdxN l81 v86.1 [s88]
  (br ((!(ByteArray.toList s87 == ByteArray.toList s88)))
  (Q (.con (.bool false)) [[l1, l2, i3, i4, i5, s6, l7, i8, i9, i10, i11, i12, l13, s14, l15, l16, l17], [l18, l19, i20, i21, i22, s23, l24, i25, i26, i27, i28, i29, l30, s31, l32, l33, l34], [i35, i36, i37, i38, l39, s40, l41, l42], [i43, i44, i45, i46, l47, s48, l49, l50], [l59, l60, i61, i62, i63, s64, l65, i66, i67, i68, i69, i70, l71, s72, l73, l74, l75]])
  ((@Eq PV (.ptr 0 0) (.ptr 0 0) ∧ @Eq PV (.ptr 1 0) (.ptr 1 0) ∧ @Eq PV (.ptr 2 0) (.ptr 2 0) ∧ @Eq PV (.ptr 3 0) (.ptr 3 0) ∧ @Eq PV l80 l80 ∧ @Eq PV l81 l81 ∧ @Eq PV (.con (.int .i64 (List.length l80 : Int))) (.con (.int .i64 (List.length l80 : Int))) ∧ True) ∧ @Eq Heap [[l1, l2, i3, i4, i5, s6, l7, i8, i9, i10, i11, i12, l13, s14, l15, l16, l17], [l18, l19, i20, i21, i22, s23, l24, i25, i26, i27, i28, i29, l30, s31, l32, l33, l34], [i35, i36, i37, i38, l39, s40, l41, l42], [i43, i44, i45, i46, l47, s48, l49, l50], [l59, l60, i61, i62, i63, s64, l65, i66, i67, i68, i69, i70, l71, s72, l73, l74, l75]] [[l1, l2, i3, i4, i5, s6, l7, i8, i9, i10, i11, i12, l13, s14, l15, l16, l17], [l18, l19, i20, i21, i22, s23, l24, i25, i26, i27, i28, i29, l30, s31, l32, l33, l34], [i35, i36, i37, i38, l39, s40, l41, l42], [i43, i44, i45, i46, l47, s48, l49, l50], [l59, l60, i61, i62, i63, s64, l65, i66, i67, i68, i69, i70, l71, s72, l73, l74, l75]] ∧ ∃ k89, k89 < n85 ∧ I84 k89 ((IntKind.wrap .i64 (v86.1 + 1)), ())))))
  (∃ b90 : Bool, CallN Tryz.prog 27 [(.agg [l1, l2, i3, i4, i5, s6, l7, i8, i9, i10, i11, i12, l13, s14, l15, l16, l17]), (.agg [l18, l19, i20, i21, i22, s23, l24, i25, i26, i27, i28, i29, l30, s31, l32, l33, l34])] [] b90
  (∃ b91 : Bool, CallN Tryz.prog 26 [(.agg [l1, l2, i3, i4, i5, s6, l7, i8, i9, i10, i11, i12, l13, s14, l15, l16, l17]), (.agg [l18, l19, i20, i21, i22, s23, l24, i25, i26, i27, i28, i29, l30, s31, l32, l33, l34])] [] b91
  (br ((b90 == b91))
  (∃ b92 : Bool, CallN Tryz.prog 28 [(.agg [i35, i36, i37, i38, l39, s40, l41, l42]), (.agg [i43, i44, i45, i46, l47, s48, l49, l50])] [] b92
  (∃ b93 : Bool, CallN Tryz.prog 29 [(.agg [i35, i36, i37, i38, l39, s40, l41, l42]), (.agg [i43, i44, i45, i46, l47, s48, l49, l50])] [] b93
  (br ((b92 == b93))
  (∃ b94 : Bool, CallN Tryz.prog 11 [] [] b94
  (Q b94 [[l1, l2, i3, i4, i5, s6, l7, i8, i9, i10, i11, i12, l13, s14, l15, l16, l17], [l18, l19, i20, i21, i22, s23, l24, i25, i26, i27, i28, i29, l30, s31, l32, l33, l34], [i35, i36, i37, i38, l39, s40, l41, l42], [i43, i44, i45, i46, l47, s48, l49, l50], [l59, l60, i61, i62, i63, s64, l65, i66, i67, i68, i69, i70, l71, s72, l73, l74, l75]]))
  (Q (.con (.bool false)) [[l1, l2, i3, i4, i5, s6, l7, i8, i9, i10, i11, i12, l13, s14, l15, l16, l17], [l18, l19, i20, i21, i22, s23, l24, i25, i26, i27, i28, i29, l30, s31, l32, l33, l34], [i35, i36, i37, i38, l39, s40, l41, l42], [i43, i44, i45, i46, l47, s48, l49, l50], [l59, l60, i61, i62, i63, s64, l65, i66, i67, i68, i69, i70, l71, s72, l73, l74, l75]]))))
  (Q (.con (.bool false)) [[l1, l2, i3, i4, i5, s6, l7, i8, i9, i10, i11, i12, l13, s14, l15, l16, l17], [l18, l19, i20, i21, i22, s23, l24, i25, i26, i27, i28, i29, l30, s31, l32, l33, l34], [i35, i36, i37, i38, l39, s40, l41, l42], [i43, i44, i45, i46, l47, s48, l49, l50], [l59, l60, i61, i62, i63, s64, l65, i66, i67, i68, i69, i70, l71, s72, l73, l74, l75]])))))))))))))))))))))))))
theorem a4 (l1 l2 : List (List PV)) (i3 i4 i5 : Int) (s6 : ByteArray) (l7 : List (List PV)) (i8 i9 i10 i11 i12 : Int) (l13 : List (List PV)) (s14 : ByteArray) (l15 l16 l17 l18 l19 : List (List PV)) (i20 i21 i22 : Int) (s23 : ByteArray) (l24 : List (List PV)) (i25 i26 i27 i28 i29 : Int) (l30 : List (List PV)) (s31 : ByteArray) (l32 l33 l34 : List (List PV)) (i35 i36 i37 i38 : Int) (l39 : List (List PV)) (s40 : ByteArray) (l41 l42 : List (List PV)) (i43 i44 i45 i46 : Int) (l47 : List (List PV)) (s48 : ByteArray) (l49 l50 : List (List PV)) (Q : PV → Heap → Prop) (h : p4 l1 l2 i3 i4 i5 s6 l7 i8 i9 i10 i11 i12 l13 s14 l15 l16 l17 l18 l19 i20 i21 i22 s23 l24 i25 i26 i27 i28 i29 l30 s31 l32 l33 l34 i35 i36 i37 i38 l39 s40 l41 l42 i43 i44 i45 i46 l47 s48 l49 l50 Q) : ACalls Tryz.prog 4 [(.agg [l1, l2, i3, i4, i5, s6, l7, i8, i9, i10, i11, i12, l13, s14, l15, l16, l17]), (.agg [l18, l19, i20, i21, i22, s23, l24, i25, i26, i27, i28, i29, l30, s31, l32, l33, l34]), (.agg [i35, i36, i37, i38, l39, s40, l41, l42]), (.agg [i43, i44, i45, i46, l47, s48, l49, l50])] [] Q := by
  have hb : Option.some (bodyOf Tryz.f4) = Tryz.f4.body := by kernel_rfl
  exact acalls_eq (S := S) (L := loops4) mixed tok Tryz.func4 hb.symm (by kernel_rfl) h
end Go.Proofs.YtcmnjodjebcapaaGreat.Deep

namespace Go.Proofs.YtcmnjodjebcapaaGreat.Deep
open Go.RowKit
set_option linter.unusedVariables false
set_option linter.unusedSimpArgs false
set_option maxRecDepth 100000 in
theorem astTells_p (p q : Pr) (e f : Ex) (hp : wfPr p) (hq : wfPr q) (he : wfEx e) (hf : wfEx f) : PCalls Tryz.prog 4 [.agg (prP p), .agg (prP q), .agg (exP e), .agg (exP f)] (fun r => r = .con (.bool true)) := by
  have L1 := light_p p hp
  have L2 := light_p q hq
  have L3 := light_ex e he 3000 (by omega) (by omega)
  have L4 := light_ex f hf 3000 (by omega) (by omega)
  obtain ⟨xp0, xp1, xp2, xp3, xp4, xp5, xp6, xp7, xp8, xp9, xp10, xp11, xp12, xp13, xp14, xp15, xp16, ep⟩ := cells_Prog p
  obtain ⟨xq0, xq1, xq2, xq3, xq4, xq5, xq6, xq7, xq8, xq9, xq10, xq11, xq12, xq13, xq14, xq15, xq16, eq⟩ := cells_Prog q
  obtain ⟨xb0, xb1, xb2, xb3, xb4, xb5, xb6, xb7, xb8, xb9, xb10, xb11, xb12, xb13, xb14, xb15, xb16, eb⟩ := cells_Prog (barePr p)
  obtain ⟨e0, e1, e2, e3, e4, e5, e6, e7, ee⟩ := cells_Expr e
  obtain ⟨f0, f1, f2, f3, f4, f5, f6, f7, ef⟩ := cells_Expr f
  rw [ep] at L1
  rw [eq] at L2
  rw [ee] at L3
  rw [ef] at L4
  rw [ep, eq, ee, ef]
  refine a4 _ _ _ _ _ _ _ _ _ _ _ _ _ _ _ _ _ _ _ _ _ _ _ _ _ _ _ _ _ _ _ _ _ _ _ _ _ _ _ _ _ _ _ _ _ _ _ _ _ _ _ ?_
  unfold p4
  refine ⟨_, call_p (enters_of Tryz.func7 (by kernel_rfl) rfl) L1 rfl ?_⟩
  refine br_i (fun h => ⟨_, call_p (enters_of Tryz.func11 (by kernel_rfl) rfl) awake_p rfl ⟨rfl, rfl⟩⟩) (fun h1 => ?_)
  refine ⟨_, call_p (enters_of Tryz.func7 (by kernel_rfl) rfl) L2 rfl ?_⟩
  refine br_i (fun h => ⟨_, call_p (enters_of Tryz.func11 (by kernel_rfl) rfl) awake_p rfl ⟨rfl, rfl⟩⟩) (fun h2 => ?_)
  refine ⟨_, call_p (enters_of Tryz.func8 (by kernel_rfl) rfl) L3 rfl ?_⟩
  refine br_i (fun h => ⟨_, call_p (enters_of Tryz.func11 (by kernel_rfl) rfl) awake_p rfl ⟨rfl, rfl⟩⟩) (fun h3 => ?_)
  refine ⟨_, call_p (enters_of Tryz.func8 (by kernel_rfl) rfl) L4 rfl ?_⟩
  refine br_i (fun h => ⟨_, call_p (enters_of Tryz.func11 (by kernel_rfl) rfl) awake_p rfl ⟨rfl, rfl⟩⟩) (fun h4 => ?_)
  have s1 := lightPr_small p hp (by simpa using h1)
  have s2 := lightPr_small q hq (by simpa using h2)
  have h3 : 0 ≤ lightEx e 3000 := by simpa using h3
  have h4 : 0 ≤ lightEx f 3000 := by simpa using h4
  have s3 := (lightEx_ok e 3000).2.2.2 (by omega) h3 he
  have s4 := (lightEx_ok f 3000).2.2.2 (by omega) h4 hf
  have hu := uE_few e h3
  have sb := smallPr_bare p s1
  have wb := wfPr_bare p hp
  have c1 := bare_prog p s1 hp
  rw [ep, eb] at c1
  refine ⟨_, _, _, _, _, _, _, _, _, _, _, _, _, _, _, _, _, call_p (enters_of Tryz.func20 (by kernel_rfl) rfl) c1 rfl ?_⟩
  have c2 := nodes_p e s3 he
  have c3 := rnodes_p e s3 he
  have c4 := free_c e s3 he hu
  rw [free_eq e hu] at c4
  have c5 := rfree_p e s3 he hu
  have hFl := freeR_len e [] []
  obtain ⟨F, hF⟩ : ∃ F, freeR e [] [] = F := ⟨_, rfl⟩
  rw [hF] at c4 c5 hFl
  simp only [List.length_nil] at hFl
  rw [ee] at c2 c3 c4 c5
  refine ⟨_, _, call_p (enters_of Tryz.func21 (by kernel_rfl) rfl) c2 rfl ?_⟩
  refine ⟨_, _, call_p (enters_of Tryz.func22 (by kernel_rfl) rfl) c3 rfl ?_⟩
  refine ⟨_, call_p (enters_of Tryz.func23 (by kernel_rfl) rfl) c4 rfl ?_⟩
  refine ⟨_, call_p (enters_of Tryz.func24 (by kernel_rfl) rfl) c5 rfl ?_⟩
  refine br_i (fun h => by simp at h) (fun _ => ?_)
  refine br_i (fun h => by simp at h) (fun _ => ?_)
  refine br_i (fun h => by simp at h) (fun _ => ?_)
  have d4 := rplaced_prog (barePr p) sb wb
  rw [eb, placedPr_bare] at d4
  refine ⟨_, call_p (enters_of Tryz.func25 (by kernel_rfl) rfl) d4 rfl ?_⟩
  refine br_i (fun h => by cases h) (fun _ => ?_)
  have d3 := rsame_prog (barePr p) p sb wb hp
  rw [eb, ep, bare_samePr] at d3
  refine ⟨_, call_p (enters_of Tryz.func26 (by kernel_rfl) rfl) d3 rfl ?_⟩
  refine br_i (fun h => by cases h) (fun _ => ?_)
  refine ⟨fun c v => ∃ j : Nat, j ≤ F.length ∧ c = F.length - j ∧ v.1 = (j : Int), ⟨_, 0, Nat.zero_le _, rfl, rfl⟩, ?_⟩
  rintro c2 ⟨i2, u2⟩ ⟨j2, hj2, rfl, hi2⟩
  dsimp only at hi2 ⊢
  subst hi2
  rw [nmP_len]
  refine br_i (fun hlt2 => ?_) (fun hge2 => ?_)
  · have hlt2 : j2 < F.length := by simpa using hlt2
    refine ⟨_, ⟨by omega, by rw [Int.toNat_natCast]; exact nmP_get F j2 hlt2, ?_⟩⟩
    refine ⟨_, ⟨by omega, by rw [Int.toNat_natCast]; exact nmP_get F j2 hlt2, ?_⟩⟩
    refine br_i (fun h => by simp at h) (fun _ => ?_)
    exact ⟨(by (repeat refine And.intro rfl ?_); exact trivial), rfl, F.length - (j2 + 1), by omega, j2 + 1, by omega, rfl, by rw [wrap_id (by omega) (by omega)]; simp⟩
  have g1 := same_prog p q s1 hp hq
  have g2 := rsame_prog p q s1 hp hq
  have g3 := same_ex e s3 he f hf
  have g4 := rsame_ex e s3 he f hf
  rw [ep, eq] at g1 g2
  rw [ee, ef] at g3 g4
  refine ⟨_, call_p (enters_of Tryz.func27 (by kernel_rfl) rfl) g1 rfl ?_⟩
  refine ⟨_, call_p (enters_of Tryz.func26 (by kernel_rfl) rfl) g2 rfl ?_⟩
  refine br_i (fun _ => ?_) (fun h => by simp at h)
  refine ⟨_, call_p (enters_of Tryz.func28 (by kernel_rfl) rfl) g3 rfl ?_⟩
  refine ⟨_, call_p (enters_of Tryz.func29 (by kernel_rfl) rfl) g4 rfl ?_⟩
  exact br_i (fun _ => ⟨_, call_p (enters_of Tryz.func11 (by kernel_rfl) rfl) awake_p rfl ⟨rfl, rfl⟩⟩) (fun h => by simp at h)
end Go.Proofs.YtcmnjodjebcapaaGreat.Deep
