/-
  Texts of one proof, in the order in which they lean on one another. No condition.
-/
import Derived.Test.YtcmnjodjebcapaaGreatFaNm
import Derived.WalkKit
import Derived.ProofKit
import Derived.OpenShut
import Derived.Carry
import Derived.ChangeSlices
import Derived.Test.YtcmnjodjebcapaaGreatFaPkb
namespace Go.Proofs.YtcmnjodjebcapaaGreat.Deep
open Go.RowKit
set_option linter.unusedVariables false
def loops50 (id : Nat) : Option (List Nat × List (Nat × Sh)) := match Nat.beq id 13 with | true => some ([1, 2], [(5, .int .i64)]) | false => none
def p50 (i1 : Int) (s2 : ByteArray) (l3 : List (List PV)) (i4 : Int) (Q : PV → Heap → Prop) : Prop :=
br ((decide ((i4 : Int) < 1)))
  (Q (.con (.bool false)) [[i1, s2, l3]])
  (br (((i1 : Int) == 0))
  (br ((ByteArray.toList s2 == ByteArray.toList ⟨#[]⟩))
  (Q (.con (.bool (((List.length l3 : Int) : Int) == 0))) [[i1, s2, l3]])
  (Q (.con (.bool false)) [[i1, s2, l3]]))
  (br (((i1 : Int) == 1))
  (br ((ByteArray.toList s2 == ByteArray.toList ⟨#[]⟩))
  (Q (.con (.bool (((List.length l3 : Int) : Int) == 0))) [[i1, s2, l3]])
  (Q (.con (.bool false)) [[i1, s2, l3]]))
  (br (((i1 : Int) == 2))
  (∃ b5 : Bool, CallN Tryz.prog 93 [s2] [[i1, s2, l3]] b5
  (br (b5)
  (Q (.con (.bool (((List.length l3 : Int) : Int) == 0))) [[i1, s2, l3]])
  (Q (.con (.bool false)) [[i1, s2, l3]])))
  (br (((i1 : Int) == 3))
  (br ((!(ByteArray.toList s2 == ByteArray.toList ⟨#[]⟩)))
  (Q (.con (.bool false)) [[i1, s2, l3]])
  (br ((decide (((List.length l3 : Int) : Int) < 2)))
  (Q (.con (.bool false)) [[i1, s2, l3]])
  (br ((decide (((List.length l3 : Int) : Int) > 6)))
  (Q (.con (.bool false)) [[i1, s2, l3]])
  (∃ I6 : Nat → ((Int) × Unit) → Prop, (∃ n, I6 n (0, ())) ∧ ∀ (n7 : Nat) (v8 : (Int) × Unit), I6 n7 v8 →
  (br ((decide ((v8.1 : Int) < (List.length l3 : Int))))
  (∃ i9 : Int, ∃ s10 : ByteArray, ∃ l11 : List (List PV), IdxN l3 v8.1 [i9, s10, l11]
  (∃ b12 : Bool, CallN Tryz.prog 50 [(.agg [i9, s10, l11]), (IntKind.wrap .i64 (i4 - 1))] [[i1, s2, l3]] b12
  (br ((!b12))
  (Q (.con (.bool false)) [[i1, s2, l3]])
  ((@Eq PV i4 i4 ∧ @Eq PV (.ptr 0 0) (.ptr 0 0) ∧ True) ∧ @Eq Heap [[i1, s2, l3]] [[i1, s2, l3]] ∧ ∃ k13, k13 < n7 ∧ I6 k13 ((IntKind.wrap .i64 (v8.1 + 1)), ())))))
  (Q (.con (.bool true)) [[i1, s2, l3]]))))))
  (Q (.con (.bool false)) [[i1, s2, l3]])))))
theorem a50 (i1 : Int) (s2 : ByteArray) (l3 : List (List PV)) (i4 : Int) (Q : PV → Heap → Prop) (h : p50 i1 s2 l3 i4 Q) : ACalls Tryz.prog 50 [(.agg [i1, s2, l3]), i4] [] Q := by
  have hb : Option.some (bodyOf Tryz.f50) = Tryz.f50.body := by kernel_rfl
  exact acalls_eq (S := S) (L := loops50) mixed tok Tryz.func50 hb.symm (by kernel_rfl) h
def loops10 (id : Nat) : Option (List Nat × List (Nat × Sh)) := match Nat.beq id 3 with | true => some ([2], [(1, .int .i64), (5, .int .i64)]) | false => none
def p10 (i1 : Int) (s2 : ByteArray) (l3 : List (List PV)) (i4 : Int) (Q : PV → Heap → Prop) : Prop :=
∃ I5 : Nat → ((Int) × (Int) × Unit) → Prop, (∃ n, I5 n ((IntKind.wrap .i64 ((IntKind.wrap .i64 (i4 - 1)) - (minI (ByteArray.size s2 : Int) 1048576))), 0, ())) ∧ ∀ (n6 : Nat) (v7 : (Int) × (Int) × Unit), I5 n6 v7 →
  (br ((decide ((v7.2.1 : Int) < (List.length l3 : Int))))
  (br ((decide ((v7.1 : Int) ≥ 0)))
  (∃ i8 : Int, ∃ s9 : ByteArray, ∃ l10 : List (List PV), IdxN l3 v7.2.1 [i8, s9, l10]
  (∃ i11 : Int, CallN Tryz.prog 10 [(.agg [i8, s9, l10]), v7.1] [[i1, s2, l3]] i11
  ((@Eq PV (.ptr 0 0) (.ptr 0 0) ∧ True) ∧ @Eq Heap [[i1, s2, l3]] [[i1, s2, l3]] ∧ ∃ k12, k12 < n6 ∧ I5 k12 (i11, (IntKind.wrap .i64 (v7.2.1 + 1)), ()))))
  (Q v7.1 [[i1, s2, l3]]))
  (Q v7.1 [[i1, s2, l3]]))
theorem a10 (i1 : Int) (s2 : ByteArray) (l3 : List (List PV)) (i4 : Int) (Q : PV → Heap → Prop) (h : p10 i1 s2 l3 i4 Q) : ACalls Tryz.prog 10 [(.agg [i1, s2, l3]), i4] [] Q := by
  have hb : Option.some (bodyOf Tryz.f10) = Tryz.f10.body := by kernel_rfl
  exact acalls_eq (S := S) (L := loops10) mixed tok Tryz.func10 hb.symm (by kernel_rfl) h
def loops9 (id : Nat) : Option (List Nat × List (Nat × Sh)) := match Nat.beq id 3 with | true => some ([2], [(1, .int .i64), (5, .int .i64)]) | false => none
def p9 (i1 i2 i3 : Int) (s4 : ByteArray) (i5 : Int) (l6 : List (List PV)) (i7 : Int) (Q : PV → Heap → Prop) : Prop :=
∃ I8 : Nat → ((Int) × (Int) × Unit) → Prop, (∃ n, I8 n ((IntKind.wrap .i64 ((IntKind.wrap .i64 (i7 - 1)) - (minI (ByteArray.size s4 : Int) 1048576))), 0, ())) ∧ ∀ (n9 : Nat) (v10 : (Int) × (Int) × Unit), I8 n9 v10 →
  (br ((decide ((v10.2.1 : Int) < (List.length l6 : Int))))
  (br ((decide ((v10.1 : Int) ≥ 0)))
  (∃ i11 : Int, ∃ i12 : Int, ∃ i13 : Int, ∃ s14 : ByteArray, ∃ i15 : Int, ∃ l16 : List (List PV), IdxN l6 v10.2.1 [i11, i12, i13, s14, i15, l16]
  (∃ i17 : Int, CallN Tryz.prog 9 [(.agg [i11, i12, i13, s14, i15, l16]), v10.1] [[i1, i2, i3, s4, i5, l6]] i17
  ((@Eq PV (.ptr 0 0) (.ptr 0 0) ∧ True) ∧ @Eq Heap [[i1, i2, i3, s4, i5, l6]] [[i1, i2, i3, s4, i5, l6]] ∧ ∃ k18, k18 < n9 ∧ I8 k18 (i17, (IntKind.wrap .i64 (v10.2.1 + 1)), ()))))
  (Q v10.1 [[i1, i2, i3, s4, i5, l6]]))
  (Q v10.1 [[i1, i2, i3, s4, i5, l6]]))
theorem a9 (i1 i2 i3 : Int) (s4 : ByteArray) (i5 : Int) (l6 : List (List PV)) (i7 : Int) (Q : PV → Heap → Prop) (h : p9 i1 i2 i3 s4 i5 l6 i7 Q) : ACalls Tryz.prog 9 [(.agg [i1, i2, i3, s4, i5, l6]), i7] [] Q := by
  have hb : Option.some (bodyOf Tryz.f9) = Tryz.f9.body := by kernel_rfl
  exact acalls_eq (S := S) (L := loops9) mixed tok Tryz.func9 hb.symm (by kernel_rfl) h
def loops8 (id : Nat) : Option (List Nat × List (Nat × Sh)) := match Nat.beq id 7 with | true => some ([2], [(1, .int .i64), (6, .int .i64)]) | false => match Nat.beq id 3 with | true => some ([2], [(1, .int .i64), (5, .int .i64)]) | false => none
def p8 (i1 i2 i3 i4 : Int) (l5 : List (List PV)) (s6 : ByteArray) (l7 l8 : List (List PV)) (i9 : Int) (Q : PV → Heap → Prop) : Prop :=
∃ I10 : Nat → ((Int) × (Int) × Unit) → Prop, (∃ n, I10 n ((IntKind.wrap .i64 ((IntKind.wrap .i64 ((IntKind.wrap .i64 (i9 - 1)) - (minI (List.length l5 : Int) 1048576))) - (minI (ByteArray.size s6 : Int) 1048576))), 0, ())) ∧ ∀ (n11 : Nat) (v12 : (Int) × (Int) × Unit), I10 n11 v12 →
  (br ((decide ((v12.2.1 : Int) < (List.length l7 : Int))))
  (br ((decide ((v12.1 : Int) ≥ 0)))
  (∃ i13 : Int, ∃ i14 : Int, ∃ i15 : Int, ∃ i16 : Int, ∃ l17 : List (List PV), ∃ s18 : ByteArray, ∃ l19 : List (List PV), ∃ l20 : List (List PV), IdxN l7 v12.2.1 [i13, i14, i15, i16, l17, s18, l19, l20]
  (∃ i21 : Int, CallN Tryz.prog 8 [(.agg [i13, i14, i15, i16, l17, s18, l19, l20]), v12.1] [[i1, i2, i3, i4, l5, s6, l7, l8]] i21
  ((@Eq PV (.ptr 0 0) (.ptr 0 0) ∧ True) ∧ @Eq Heap [[i1, i2, i3, i4, l5, s6, l7, l8]] [[i1, i2, i3, i4, l5, s6, l7, l8]] ∧ ∃ k22, k22 < n11 ∧ I10 k22 (i21, (IntKind.wrap .i64 (v12.2.1 + 1)), ()))))
  (∃ I23 : Nat → ((Int) × (Int) × Unit) → Prop, (∃ n, I23 n (v12.1, 0, ())) ∧ ∀ (n24 : Nat) (v25 : (Int) × (Int) × Unit), I23 n24 v25 →
  (br ((decide ((v25.2.1 : Int) < (List.length l8 : Int))))
  (br ((decide ((v25.1 : Int) ≥ 0)))
  (∃ i26 : Int, ∃ i27 : Int, ∃ i28 : Int, ∃ s29 : ByteArray, ∃ i30 : Int, ∃ l31 : List (List PV), ∃ i32 : Int, ∃ i33 : Int, ∃ i34 : Int, ∃ i35 : Int, ∃ l36 : List (List PV), ∃ s37 : ByteArray, ∃ l38 : List (List PV), ∃ l39 : List (List PV), IdxN l8 v25.2.1 [i26, i27, i28, s29, i30, l31, i32, i33, i34, i35, l36, s37, l38, l39]
  (∃ i40 : Int, ∃ i41 : Int, ∃ i42 : Int, ∃ s43 : ByteArray, ∃ i44 : Int, ∃ l45 : List (List PV), ∃ i46 : Int, ∃ i47 : Int, ∃ i48 : Int, ∃ i49 : Int, ∃ l50 : List (List PV), ∃ s51 : ByteArray, ∃ l52 : List (List PV), ∃ l53 : List (List PV), IdxN l8 v25.2.1 [i40, i41, i42, s43, i44, l45, i46, i47, i48, i49, l50, s51, l52, l53]
  (∃ i54 : Int, CallN Tryz.prog 9 [(.agg [i40, i41, i42, s43, i44, l45]), v25.1] [] i54
  (∃ i55 : Int, CallN Tryz.prog 8 [(.agg [i32, i33, i34, i35, l36, s37, l38, l39]), i54] [] i55
  ((@Eq PV (.ptr 0 0) (.ptr 0 0) ∧ True) ∧ @Eq Heap [[i1, i2, i3, i4, l5, s6, l7, l8]] [[i1, i2, i3, i4, l5, s6, l7, l8]] ∧ ∃ k56, k56 < n24 ∧ I23 k56 (i55, (IntKind.wrap .i64 (v25.2.1 + 1)), ()))))))
  (Q v25.1 [[i1, i2, i3, i4, l5, s6, l7, l8]]))
  (Q v25.1 [[i1, i2, i3, i4, l5, s6, l7, l8]]))))
  (∃ I57 : Nat → ((Int) × (Int) × Unit) → Prop, (∃ n, I57 n (v12.1, 0, ())) ∧ ∀ (n58 : Nat) (v59 : (Int) × (Int) × Unit), I57 n58 v59 →
  (br ((decide ((v59.2.1 : Int) < (List.length l8 : Int))))
  (br ((decide ((v59.1 : Int) ≥ 0)))
  (∃ i60 : Int, ∃ i61 : Int, ∃ i62 : Int, ∃ s63 : ByteArray, ∃ i64 : Int, ∃ l65 : List (List PV), ∃ i66 : Int, ∃ i67 : Int, ∃ i68 : Int, ∃ i69 : Int, ∃ l70 : List (List PV), ∃ s71 : ByteArray, ∃ l72 : List (List PV), ∃ l73 : List (List PV), IdxN l8 v59.2.1 [i60, i61, i62, s63, i64, l65, i66, i67, i68, i69, l70, s71, l72, l73]
  (∃ i74 : Int, ∃ i75 : Int, ∃ i76 : Int, ∃ s77 : ByteArray, ∃ i78 : Int, ∃ l79 : List (List PV), ∃ i80 : Int, ∃ i81 : Int, ∃ i82 : Int, ∃ i83 : Int, ∃ l84 : List (List PV), ∃ s85 : ByteArray, ∃ l86 : List (List PV), ∃ l87 : List (List PV), IdxN l8 v59.2.1 [i74, i75, i76, s77, i78, l79, i80, i81, i82, i83, l84, s85, l86, l87]
  (∃ i88 : Int, CallN Tryz.prog 9 [(.agg [i74, i75, i76, s77, i78, l79]), v59.1] [] i88
  (∃ i89 : Int, CallN Tryz.prog 8 [(.agg [i66, i67, i68, i69, l70, s71, l72, l73]), i88] [] i89
  ((@Eq PV (.ptr 0 0) (.ptr 0 0) ∧ True) ∧ @Eq Heap [[i1, i2, i3, i4, l5, s6, l7, l8]] [[i1, i2, i3, i4, l5, s6, l7, l8]] ∧ ∃ k90, k90 < n58 ∧ I57 k90 (i89, (IntKind.wrap .i64 (v59.2.1 + 1)), ()))))))
  (Q v59.1 [[i1, i2, i3, i4, l5, s6, l7, l8]]))
  (Q v59.1 [[i1, i2, i3, i4, l5, s6, l7, l8]]))))
theorem a8 (i1 i2 i3 i4 : Int) (l5 : List (List PV)) (s6 : ByteArray) (l7 l8 : List (List PV)) (i9 : Int) (Q : PV → Heap → Prop) (h : p8 i1 i2 i3 i4 l5 s6 l7 l8 i9 Q) : ACalls Tryz.prog 8 [(.agg [i1, i2, i3, i4, l5, s6, l7, l8]), i9] [] Q := by
  have hb : Option.some (bodyOf Tryz.f8) = Tryz.f8.body := by kernel_rfl
  exact acalls_eq (S := S) (L := loops8) mixed tok Tryz.func8 hb.symm (by kernel_rfl) h
def loops19 (id : Nat) : Option (List Nat × List (Nat × Sh)) := none
def p19 (i1 : Int) (s2 : ByteArray) (l3 : List (List PV)) (Q : PV → Heap → Prop) : Prop :=
∃ b4 : Bool, CallN Tryz.prog 50 [(.agg [i1, s2, l3]), (.con (.int .i64 64))] [[i1, s2, l3]] b4
  (Q b4 [[i1, s2, l3]])
theorem a19 (i1 : Int) (s2 : ByteArray) (l3 : List (List PV)) (Q : PV → Heap → Prop) (h : p19 i1 s2 l3 Q) : ACalls Tryz.prog 19 [(.agg [i1, s2, l3])] [] Q := by
  have hb : Option.some (bodyOf Tryz.f19) = Tryz.f19.body := by kernel_rfl
  exact acalls_eq (S := S) (L := loops19) mixed tok Tryz.func19 hb.symm (by kernel_rfl) h
def loops17 (id : Nat) : Option (List Nat × List (Nat × Sh)) := none
def p17 (i1 i2 i3 : Int) (s4 : ByteArray) (i5 : Int) (l6 : List (List PV)) (Q : PV → Heap → Prop) : Prop :=
∃ b7 : Bool, CallN Tryz.prog 48 [(.agg [i1, i2, i3, s4, i5, l6]), (.con (.int .i64 64))] [[i1, i2, i3, s4, i5, l6]] b7
  (Q b7 [[i1, i2, i3, s4, i5, l6]])
theorem a17 (i1 i2 i3 : Int) (s4 : ByteArray) (i5 : Int) (l6 : List (List PV)) (Q : PV → Heap → Prop) (h : p17 i1 i2 i3 s4 i5 l6 Q) : ACalls Tryz.prog 17 [(.agg [i1, i2, i3, s4, i5, l6])] [] Q := by
  have hb : Option.some (bodyOf Tryz.f17) = Tryz.f17.body := by kernel_rfl
  exact acalls_eq (S := S) (L := loops17) mixed tok Tryz.func17 hb.symm (by kernel_rfl) h
def loops15 (id : Nat) : Option (List Nat × List (Nat × Sh)) := none
def p15 (i1 i2 i3 i4 : Int) (l5 : List (List PV)) (s6 : ByteArray) (l7 l8 : List (List PV)) (Q : PV → Heap → Prop) : Prop :=
∃ b9 : Bool, CallN Tryz.prog 46 [(.agg [i1, i2, i3, i4, l5, s6, l7, l8]), (.con (.int .i64 64))] [[i1, i2, i3, i4, l5, s6, l7, l8]] b9
  (Q b9 [[i1, i2, i3, i4, l5, s6, l7, l8]])
theorem a15 (i1 i2 i3 i4 : Int) (l5 : List (List PV)) (s6 : ByteArray) (l7 l8 : List (List PV)) (Q : PV → Heap → Prop) (h : p15 i1 i2 i3 i4 l5 s6 l7 l8 Q) : ACalls Tryz.prog 15 [(.agg [i1, i2, i3, i4, l5, s6, l7, l8])] [] Q := by
  have hb : Option.some (bodyOf Tryz.f15) = Tryz.f15.body := by kernel_rfl
  exact acalls_eq (S := S) (L := loops15) mixed tok Tryz.func15 hb.symm (by kernel_rfl) h
def loops48 (id : Nat) : Option (List Nat × List (Nat × Sh)) := match Nat.beq id 4 with | true => some ([1, 2], [(5, .int .i64)]) | false => none
def p48 (i1 i2 i3 : Int) (s4 : ByteArray) (i5 : Int) (l6 : List (List PV)) (i7 : Int) (Q : PV → Heap → Prop) : Prop :=
br ((decide ((i7 : Int) < 1)))
  (Q (.con (.bool false)) [[i1, i2, i3, s4, i5, l6]])
  (br (((i1 : Int) != 2))
  (br (((i5 : Int) != 0))
  (Q (.con (.bool false)) [[i1, i2, i3, s4, i5, l6]])
  (∃ I8 : Nat → ((Int) × Unit) → Prop, (∃ n, I8 n (0, ())) ∧ ∀ (n9 : Nat) (v10 : (Int) × Unit), I8 n9 v10 →
  (br ((decide ((v10.1 : Int) < (List.length l6 : Int))))
  (br ((decide ((v10.1 : Int) < 10)))
  (∃ i11 : Int, ∃ i12 : Int, ∃ i13 : Int, ∃ s14 : ByteArray, ∃ i15 : Int, ∃ l16 : List (List PV), IdxN l6 v10.1 [i11, i12, i13, s14, i15, l16]
  (∃ b17 : Bool, CallN Tryz.prog 48 [(.agg [i11, i12, i13, s14, i15, l16]), (IntKind.wrap .i64 (i7 - 1))] [[i1, i2, i3, s4, i5, l6]] b17
  (br ((!b17))
  (Q (.con (.bool false)) [[i1, i2, i3, s4, i5, l6]])
  ((@Eq PV i7 i7 ∧ @Eq PV (.ptr 0 0) (.ptr 0 0) ∧ True) ∧ @Eq Heap [[i1, i2, i3, s4, i5, l6]] [[i1, i2, i3, s4, i5, l6]] ∧ ∃ k18, k18 < n9 ∧ I8 k18 ((IntKind.wrap .i64 (v10.1 + 1)), ())))))
  (br (((i1 : Int) == 0))
  (br ((ByteArray.toList s4 == ByteArray.toList ⟨#[]⟩))
  (Q (.con (.bool (((List.length l6 : Int) : Int) == 0))) [[i1, i2, i3, s4, i5, l6]])
  (Q (.con (.bool false)) [[i1, i2, i3, s4, i5, l6]]))
  (br (((i1 : Int) == 1))
  (∃ b19 : Bool, CallN Tryz.prog 43 [s4, (.con (.bool false))] [[i1, i2, i3, s4, i5, l6]] b19
  (br (b19)
  (Q (.con (.bool (((List.length l6 : Int) : Int) == 0))) [[i1, i2, i3, s4, i5, l6]])
  (Q (.con (.bool false)) [[i1, i2, i3, s4, i5, l6]])))
  (br (((i1 : Int) == 2))
  (br ((ByteArray.toList s4 == ByteArray.toList ⟨#[]⟩))
  (br ((((List.length l6 : Int) : Int) == 0))
  (∃ b20 : Bool, CallN Tryz.prog 109 [i5] [[i1, i2, i3, s4, i5, l6]] b20
  (Q b20 [[i1, i2, i3, s4, i5, l6]]))
  (Q (.con (.bool false)) [[i1, i2, i3, s4, i5, l6]]))
  (Q (.con (.bool false)) [[i1, i2, i3, s4, i5, l6]]))
  (br (((i1 : Int) == 3))
  (∃ b21 : Bool, CallN Tryz.prog 43 [s4, (.con (.bool true))] [[i1, i2, i3, s4, i5, l6]] b21
  (br (b21)
  (Q (.con (.bool (decide (((List.length l6 : Int) : Int) ≤ 6)))) [[i1, i2, i3, s4, i5, l6]])
  (Q (.con (.bool false)) [[i1, i2, i3, s4, i5, l6]])))
  (br (((i1 : Int) == 4))
  (br ((ByteArray.toList s4 == ByteArray.toList ⟨#[]⟩))
  (br ((decide (((List.length l6 : Int) : Int) ≥ 2)))
  (Q (.con (.bool (decide (((List.length l6 : Int) : Int) ≤ 6)))) [[i1, i2, i3, s4, i5, l6]])
  (Q (.con (.bool false)) [[i1, i2, i3, s4, i5, l6]]))
  (Q (.con (.bool false)) [[i1, i2, i3, s4, i5, l6]]))
  (Q (.con (.bool false)) [[i1, i2, i3, s4, i5, l6]])))))))
  (br (((i1 : Int) == 0))
  (br ((ByteArray.toList s4 == ByteArray.toList ⟨#[]⟩))
  (Q (.con (.bool (((List.length l6 : Int) : Int) == 0))) [[i1, i2, i3, s4, i5, l6]])
  (Q (.con (.bool false)) [[i1, i2, i3, s4, i5, l6]]))
  (br (((i1 : Int) == 1))
  (∃ b22 : Bool, CallN Tryz.prog 43 [s4, (.con (.bool false))] [[i1, i2, i3, s4, i5, l6]] b22
  (br (b22)
  (Q (.con (.bool (((List.length l6 : Int) : Int) == 0))) [[i1, i2, i3, s4, i5, l6]])
  (Q (.con (.bool false)) [[i1, i2, i3, s4, i5, l6]])))
  (br (((i1 : Int) == 2))
  (br ((ByteArray.toList s4 == ByteArray.toList ⟨#[]⟩))
  (br ((((List.length l6 : Int) : Int) == 0))
  (∃ b23 : Bool, CallN Tryz.prog 109 [i5] [[i1, i2, i3, s4, i5, l6]] b23
  (Q b23 [[i1, i2, i3, s4, i5, l6]]))
  (Q (.con (.bool false)) [[i1, i2, i3, s4, i5, l6]]))
  (Q (.con (.bool false)) [[i1, i2, i3, s4, i5, l6]]))
  (br (((i1 : Int) == 3))
  (∃ b24 : Bool, CallN Tryz.prog 43 [s4, (.con (.bool true))] [[i1, i2, i3, s4, i5, l6]] b24
  (br (b24)
  (Q (.con (.bool (decide (((List.length l6 : Int) : Int) ≤ 6)))) [[i1, i2, i3, s4, i5, l6]])
  (Q (.con (.bool false)) [[i1, i2, i3, s4, i5, l6]])))
  (br (((i1 : Int) == 4))
  (br ((ByteArray.toList s4 == ByteArray.toList ⟨#[]⟩))
  (br ((decide (((List.length l6 : Int) : Int) ≥ 2)))
  (Q (.con (.bool (decide (((List.length l6 : Int) : Int) ≤ 6)))) [[i1, i2, i3, s4, i5, l6]])
  (Q (.con (.bool false)) [[i1, i2, i3, s4, i5, l6]]))
  (Q (.con (.bool false)) [[i1, i2, i3, s4, i5, l6]]))
  (Q (.con (.bool false)) [[i1, i2, i3, s4, i5, l6]])))))))))
  (∃ I25 : Nat → ((Int) × Unit) → Prop, (∃ n, I25 n (0, ())) ∧ ∀ (n26 : Nat) (v27 : (Int) × Unit), I25 n26 v27 →
  (br ((decide ((v27.1 : Int) < (List.length l6 : Int))))
  (br ((decide ((v27.1 : Int) < 10)))
  (∃ i28 : Int, ∃ i29 : Int, ∃ i30 : Int, ∃ s31 : ByteArray, ∃ i32 : Int, ∃ l33 : List (List PV), IdxN l6 v27.1 [i28, i29, i30, s31, i32, l33]
  (∃ b34 : Bool, CallN Tryz.prog 48 [(.agg [i28, i29, i30, s31, i32, l33]), (IntKind.wrap .i64 (i7 - 1))] [[i1, i2, i3, s4, i5, l6]] b34
  (br ((!b34))
  (Q (.con (.bool false)) [[i1, i2, i3, s4, i5, l6]])
  ((@Eq PV i7 i7 ∧ @Eq PV (.ptr 0 0) (.ptr 0 0) ∧ True) ∧ @Eq Heap [[i1, i2, i3, s4, i5, l6]] [[i1, i2, i3, s4, i5, l6]] ∧ ∃ k35, k35 < n26 ∧ I25 k35 ((IntKind.wrap .i64 (v27.1 + 1)), ())))))
  (br (((i1 : Int) == 0))
  (br ((ByteArray.toList s4 == ByteArray.toList ⟨#[]⟩))
  (Q (.con (.bool (((List.length l6 : Int) : Int) == 0))) [[i1, i2, i3, s4, i5, l6]])
  (Q (.con (.bool false)) [[i1, i2, i3, s4, i5, l6]]))
  (br (((i1 : Int) == 1))
  (∃ b36 : Bool, CallN Tryz.prog 43 [s4, (.con (.bool false))] [[i1, i2, i3, s4, i5, l6]] b36
  (br (b36)
  (Q (.con (.bool (((List.length l6 : Int) : Int) == 0))) [[i1, i2, i3, s4, i5, l6]])
  (Q (.con (.bool false)) [[i1, i2, i3, s4, i5, l6]])))
  (br (((i1 : Int) == 2))
  (br ((ByteArray.toList s4 == ByteArray.toList ⟨#[]⟩))
  (br ((((List.length l6 : Int) : Int) == 0))
  (∃ b37 : Bool, CallN Tryz.prog 109 [i5] [[i1, i2, i3, s4, i5, l6]] b37
  (Q b37 [[i1, i2, i3, s4, i5, l6]]))
  (Q (.con (.bool false)) [[i1, i2, i3, s4, i5, l6]]))
  (Q (.con (.bool false)) [[i1, i2, i3, s4, i5, l6]]))
  (br (((i1 : Int) == 3))
  (∃ b38 : Bool, CallN Tryz.prog 43 [s4, (.con (.bool true))] [[i1, i2, i3, s4, i5, l6]] b38
  (br (b38)
  (Q (.con (.bool (decide (((List.length l6 : Int) : Int) ≤ 6)))) [[i1, i2, i3, s4, i5, l6]])
  (Q (.con (.bool false)) [[i1, i2, i3, s4, i5, l6]])))
  (br (((i1 : Int) == 4))
  (br ((ByteArray.toList s4 == ByteArray.toList ⟨#[]⟩))
  (br ((decide (((List.length l6 : Int) : Int) ≥ 2)))
  (Q (.con (.bool (decide (((List.length l6 : Int) : Int) ≤ 6)))) [[i1, i2, i3, s4, i5, l6]])
  (Q (.con (.bool false)) [[i1, i2, i3, s4, i5, l6]]))
  (Q (.con (.bool false)) [[i1, i2, i3, s4, i5, l6]]))
  (Q (.con (.bool false)) [[i1, i2, i3, s4, i5, l6]])))))))
  (br (((i1 : Int) == 0))
  (br ((ByteArray.toList s4 == ByteArray.toList ⟨#[]⟩))
  (Q (.con (.bool (((List.length l6 : Int) : Int) == 0))) [[i1, i2, i3, s4, i5, l6]])
  (Q (.con (.bool false)) [[i1, i2, i3, s4, i5, l6]]))
  (br (((i1 : Int) == 1))
  (∃ b39 : Bool, CallN Tryz.prog 43 [s4, (.con (.bool false))] [[i1, i2, i3, s4, i5, l6]] b39
  (br (b39)
  (Q (.con (.bool (((List.length l6 : Int) : Int) == 0))) [[i1, i2, i3, s4, i5, l6]])
  (Q (.con (.bool false)) [[i1, i2, i3, s4, i5, l6]])))
  (br (((i1 : Int) == 2))
  (br ((ByteArray.toList s4 == ByteArray.toList ⟨#[]⟩))
  (br ((((List.length l6 : Int) : Int) == 0))
  (∃ b40 : Bool, CallN Tryz.prog 109 [i5] [[i1, i2, i3, s4, i5, l6]] b40
  (Q b40 [[i1, i2, i3, s4, i5, l6]]))
  (Q (.con (.bool false)) [[i1, i2, i3, s4, i5, l6]]))
  (Q (.con (.bool false)) [[i1, i2, i3, s4, i5, l6]]))
  (br (((i1 : Int) == 3))
  (∃ b41 : Bool, CallN Tryz.prog 43 [s4, (.con (.bool true))] [[i1, i2, i3, s4, i5, l6]] b41
  (br (b41)
  (Q (.con (.bool (decide (((List.length l6 : Int) : Int) ≤ 6)))) [[i1, i2, i3, s4, i5, l6]])
  (Q (.con (.bool false)) [[i1, i2, i3, s4, i5, l6]])))
  (br (((i1 : Int) == 4))
  (br ((ByteArray.toList s4 == ByteArray.toList ⟨#[]⟩))
  (br ((decide (((List.length l6 : Int) : Int) ≥ 2)))
  (Q (.con (.bool (decide (((List.length l6 : Int) : Int) ≤ 6)))) [[i1, i2, i3, s4, i5, l6]])
  (Q (.con (.bool false)) [[i1, i2, i3, s4, i5, l6]]))
  (Q (.con (.bool false)) [[i1, i2, i3, s4, i5, l6]]))
  (Q (.con (.bool false)) [[i1, i2, i3, s4, i5, l6]])))))))))
theorem a48 (i1 i2 i3 : Int) (s4 : ByteArray) (i5 : Int) (l6 : List (List PV)) (i7 : Int) (Q : PV → Heap → Prop) (h : p48 i1 i2 i3 s4 i5 l6 i7 Q) : ACalls Tryz.prog 48 [(.agg [i1, i2, i3, s4, i5, l6]), i7] [] Q := by
  have hb : Option.some (bodyOf Tryz.f48) = Tryz.f48.body := by kernel_rfl
  exact acalls_eq (S := S) (L := loops48) mixed tok Tryz.func48 hb.symm (by kernel_rfl) h
def loops46 (id : Nat) : Option (List Nat × List (Nat × Sh)) := match Nat.beq id 9 with | true => some ([1, 2], [(6, .int .i64)]) | false => match Nat.beq id 4 with | true => some ([1, 2], [(5, .int .i64)]) | false => none
def p46 (i1 i2 i3 i4 : Int) (l5 : List (List PV)) (s6 : ByteArray) (l7 l8 : List (List PV)) (i9 : Int) (Q : PV → Heap → Prop) : Prop :=
br ((decide ((i9 : Int) < 1)))
  (Q (.con (.bool false)) [[i1, i2, i3, i4, l5, s6, l7, l8]])
  (∃ b10 : Bool, CallN Tryz.prog 105 [(.agg [i1, i2, i3, i4, l5, s6, l7, l8])] [[i1, i2, i3, i4, l5, s6, l7, l8]] b10
  (br ((!b10))
  (Q (.con (.bool false)) [[i1, i2, i3, i4, l5, s6, l7, l8]])
  (∃ I11 : Nat → ((Int) × Unit) → Prop, (∃ n, I11 n (0, ())) ∧ ∀ (n12 : Nat) (v13 : (Int) × Unit), I11 n12 v13 →
  (br ((decide ((v13.1 : Int) < (List.length l7 : Int))))
  (∃ i14 : Int, ∃ i15 : Int, ∃ i16 : Int, ∃ i17 : Int, ∃ l18 : List (List PV), ∃ s19 : ByteArray, ∃ l20 : List (List PV), ∃ l21 : List (List PV), IdxN l7 v13.1 [i14, i15, i16, i17, l18, s19, l20, l21]
  (∃ b22 : Bool, CallN Tryz.prog 46 [(.agg [i14, i15, i16, i17, l18, s19, l20, l21]), (IntKind.wrap .i64 (i9 - 1))] [[i1, i2, i3, i4, l5, s6, l7, l8]] b22
  (br ((!b22))
  (Q (.con (.bool false)) [[i1, i2, i3, i4, l5, s6, l7, l8]])
  ((@Eq PV i9 i9 ∧ @Eq PV (.ptr 0 0) (.ptr 0 0) ∧ True) ∧ @Eq Heap [[i1, i2, i3, i4, l5, s6, l7, l8]] [[i1, i2, i3, i4, l5, s6, l7, l8]] ∧ ∃ k23, k23 < n12 ∧ I11 k23 ((IntKind.wrap .i64 (v13.1 + 1)), ())))))
  (∃ I24 : Nat → ((Int) × Unit) → Prop, (∃ n, I24 n (0, ())) ∧ ∀ (n25 : Nat) (v26 : (Int) × Unit), I24 n25 v26 →
  (br ((decide ((v26.1 : Int) < (List.length l8 : Int))))
  (∃ i27 : Int, ∃ i28 : Int, ∃ i29 : Int, ∃ s30 : ByteArray, ∃ i31 : Int, ∃ l32 : List (List PV), ∃ i33 : Int, ∃ i34 : Int, ∃ i35 : Int, ∃ i36 : Int, ∃ l37 : List (List PV), ∃ s38 : ByteArray, ∃ l39 : List (List PV), ∃ l40 : List (List PV), IdxN l8 v26.1 [i27, i28, i29, s30, i31, l32, i33, i34, i35, i36, l37, s38, l39, l40]
  (∃ b41 : Bool, CallN Tryz.prog 48 [(.agg [i27, i28, i29, s30, i31, l32]), (IntKind.wrap .i64 (i9 - 1))] [[i1, i2, i3, i4, l5, s6, l7, l8]] b41
  (br ((!b41))
  (Q (.con (.bool false)) [[i1, i2, i3, i4, l5, s6, l7, l8]])
  (∃ i42 : Int, ∃ i43 : Int, ∃ i44 : Int, ∃ s45 : ByteArray, ∃ i46 : Int, ∃ l47 : List (List PV), ∃ i48 : Int, ∃ i49 : Int, ∃ i50 : Int, ∃ i51 : Int, ∃ l52 : List (List PV), ∃ s53 : ByteArray, ∃ l54 : List (List PV), ∃ l55 : List (List PV), IdxN l8 v26.1 [i42, i43, i44, s45, i46, l47, i48, i49, i50, i51, l52, s53, l54, l55]
  (∃ b56 : Bool, CallN Tryz.prog 46 [(.agg [i48, i49, i50, i51, l52, s53, l54, l55]), (IntKind.wrap .i64 (i9 - 1))] [[i1, i2, i3, i4, l5, s6, l7, l8]] b56
  (br ((!b56))
  (Q (.con (.bool false)) [[i1, i2, i3, i4, l5, s6, l7, l8]])
  ((@Eq PV i9 i9 ∧ @Eq PV (.ptr 0 0) (.ptr 0 0) ∧ True) ∧ @Eq Heap [[i1, i2, i3, i4, l5, s6, l7, l8]] [[i1, i2, i3, i4, l5, s6, l7, l8]] ∧ ∃ k57, k57 < n25 ∧ I24 k57 ((IntKind.wrap .i64 (v26.1 + 1)), ()))))))))
  (Q (.con (.bool true)) [[i1, i2, i3, i4, l5, s6, l7, l8]])))))))
theorem a46 (i1 i2 i3 i4 : Int) (l5 : List (List PV)) (s6 : ByteArray) (l7 l8 : List (List PV)) (i9 : Int) (Q : PV → Heap → Prop) (h : p46 i1 i2 i3 i4 l5 s6 l7 l8 i9 Q) : ACalls Tryz.prog 46 [(.agg [i1, i2, i3, i4, l5, s6, l7, l8]), i9] [] Q := by
  have hb : Option.some (bodyOf Tryz.f46) = Tryz.f46.body := by kernel_rfl
  exact acalls_eq (S := S) (L := loops46) mixed tok Tryz.func46 hb.symm (by kernel_rfl) h
def loops44 (id : Nat) : Option (List Nat × List (Nat × Sh)) := none
def p44 (s1 : ByteArray) (i2 : Int) (s3 : ByteArray) (l4 : List (List PV)) (Q : PV → Heap → Prop) : Prop :=
∃ b5 : Bool, CallN Tryz.prog 43 [s1, (.con (.bool false))] [[s1, i2, s3, l4]] b5
  (br (b5)
  (∃ b6 : Bool, CallN Tryz.prog 19 [(.agg [i2, s3, l4])] [[s1, i2, s3, l4]] b6
  (Q b6 [[s1, i2, s3, l4]]))
  (Q (.con (.bool false)) [[s1, i2, s3, l4]]))
theorem a44 (s1 : ByteArray) (i2 : Int) (s3 : ByteArray) (l4 : List (List PV)) (Q : PV → Heap → Prop) (h : p44 s1 i2 s3 l4 Q) : ACalls Tryz.prog 44 [(.agg [s1, i2, s3, l4])] [] Q := by
  have hb : Option.some (bodyOf Tryz.f44) = Tryz.f44.body := by kernel_rfl
  exact acalls_eq (S := S) (L := loops44) mixed tok Tryz.func44 hb.symm (by kernel_rfl) h
def loops41 (id : Nat) : Option (List Nat × List (Nat × Sh)) := match Nat.beq id 10 with | true => some ([1, 3, 4], [(5, .int .i64)]) | false => match Nat.beq id 4 with | true => some ([1], [(3, .int .i64)]) | false => none
def p41 (i1 i2 : Int) (s3 : ByteArray) (l4 : List (List PV)) (Q : PV → Heap → Prop) : Prop :=
∃ b5 : Bool, CallN Tryz.prog 93 [s3] [[i1, i2, s3, l4]] b5
  (br ((!b5))
  (Q (.con (.bool false)) [[i1, i2, s3, l4]])
  (br ((decide (((List.length l4 : Int) : Int) < 1)))
  (Q (.con (.bool false)) [[i1, i2, s3, l4]])
  (br ((decide (((List.length l4 : Int) : Int) > 16)))
  (Q (.con (.bool false)) [[i1, i2, s3, l4]])
  (∃ I6 : Nat → ((Int) × Unit) → Prop, (∃ n, I6 n (0, ())) ∧ ∀ (n7 : Nat) (v8 : (Int) × Unit), I6 n7 v8 →
  (br ((decide ((v8.1 : Int) < (List.length l4 : Int))))
  (∃ s9 : ByteArray, ∃ l10 : List (List PV), IdxN l4 v8.1 [s9, l10]
  (∃ b11 : Bool, CallN Tryz.prog 43 [s9, (.con (.bool true))] [[i1, i2, s3, l4], [s9, l10]] b11
  (br ((!b11))
  (Q (.con (.bool false)) [[i1, i2, s3, l4], [s9, l10]])
  (br ((decide (((List.length l10 : Int) : Int) > 6)))
  (Q (.con (.bool false)) [[i1, i2, s3, l4], [s9, l10]])
  (∃ I12 : Nat → ((Int) × Unit) → Prop, (∃ n, I12 n (0, ())) ∧ ∀ (n13 : Nat) (v14 : (Int) × Unit), I12 n13 v14 →
  (br ((decide ((v14.1 : Int) < (List.length l10 : Int))))
  (∃ i15 : Int, ∃ s16 : ByteArray, ∃ l17 : List (List PV), IdxN l10 v14.1 [i15, s16, l17]
  (∃ b18 : Bool, CallN Tryz.prog 19 [(.agg [i15, s16, l17])] [[i1, i2, s3, l4], [s9, l10]] b18
  (br ((!b18))
  (Q (.con (.bool false)) [[i1, i2, s3, l4], [s9, l10]])
  ((@Eq PV (.ptr 0 0) (.ptr 0 0) ∧ @Eq PV v8.1 v8.1 ∧ @Eq PV (.ptr 1 0) (.ptr 1 0) ∧ True) ∧ @Eq Heap [[i1, i2, s3, l4], [s9, l10]] [[i1, i2, s3, l4], [s9, l10]] ∧ ∃ k19, k19 < n13 ∧ I12 k19 ((IntKind.wrap .i64 (v14.1 + 1)), ())))))
  ((@Eq PV (.ptr 0 0) (.ptr 0 0) ∧ True) ∧ @Eq Heap [[i1, i2, s3, l4]] [[i1, i2, s3, l4]] ∧ ∃ k20, k20 < n7 ∧ I6 k20 ((IntKind.wrap .i64 (v8.1 + 1)), ()))))))))
  (Q (.con (.bool true)) [[i1, i2, s3, l4]]))))))
theorem a41 (i1 i2 : Int) (s3 : ByteArray) (l4 : List (List PV)) (Q : PV → Heap → Prop) (h : p41 i1 i2 s3 l4 Q) : ACalls Tryz.prog 41 [(.agg [i1, i2, s3, l4])] [] Q := by
  have hb : Option.some (bodyOf Tryz.f41) = Tryz.f41.body := by kernel_rfl
  exact acalls_eq (S := S) (L := loops41) mixed tok Tryz.func41 hb.symm (by kernel_rfl) h
def loops42 (id : Nat) : Option (List Nat × List (Nat × Sh)) := match Nat.beq id 4 with | true => some ([1], [(3, .int .i64)]) | false => none
def p42 (i1 i2 : Int) (s3 : ByteArray) (l4 : List (List PV)) (i5 : Int) (s6 : ByteArray) (l7 : List (List PV)) (i8 i9 i10 i11 : Int) (l12 : List (List PV)) (s13 : ByteArray) (l14 l15 : List (List PV)) (Q : PV → Heap → Prop) : Prop :=
∃ b16 : Bool, CallN Tryz.prog 94 [s3] [[i1, i2, s3, l4, i5, s6, l7, i8, i9, i10, i11, l12, s13, l14, l15]] b16
  (br ((!b16))
  (Q (.con (.bool false)) [[i1, i2, s3, l4, i5, s6, l7, i8, i9, i10, i11, l12, s13, l14, l15]])
  (br ((decide (((List.length l4 : Int) : Int) < 1)))
  (Q (.con (.bool false)) [[i1, i2, s3, l4, i5, s6, l7, i8, i9, i10, i11, l12, s13, l14, l15]])
  (br ((decide (((List.length l4 : Int) : Int) > 6)))
  (Q (.con (.bool false)) [[i1, i2, s3, l4, i5, s6, l7, i8, i9, i10, i11, l12, s13, l14, l15]])
  (∃ b17 : Bool, CallN Tryz.prog 19 [(.agg [i5, s6, l7])] [[i1, i2, s3, l4, i5, s6, l7, i8, i9, i10, i11, l12, s13, l14, l15]] b17
  (br ((!b17))
  (Q (.con (.bool false)) [[i1, i2, s3, l4, i5, s6, l7, i8, i9, i10, i11, l12, s13, l14, l15]])
  (∃ b18 : Bool, CallN Tryz.prog 15 [(.agg [i8, i9, i10, i11, l12, s13, l14, l15])] [[i1, i2, s3, l4, i5, s6, l7, i8, i9, i10, i11, l12, s13, l14, l15]] b18
  (br ((!b18))
  (Q (.con (.bool false)) [[i1, i2, s3, l4, i5, s6, l7, i8, i9, i10, i11, l12, s13, l14, l15]])
  (∃ I19 : Nat → ((Int) × Unit) → Prop, (∃ n, I19 n (0, ())) ∧ ∀ (n20 : Nat) (v21 : (Int) × Unit), I19 n20 v21 →
  (br ((decide ((v21.1 : Int) < (List.length l4 : Int))))
  (∃ s22 : ByteArray, ∃ i23 : Int, ∃ s24 : ByteArray, ∃ l25 : List (List PV), IdxN l4 v21.1 [s22, i23, s24, l25]
  (∃ b26 : Bool, CallN Tryz.prog 44 [(.agg [s22, i23, s24, l25])] [[i1, i2, s3, l4, i5, s6, l7, i8, i9, i10, i11, l12, s13, l14, l15]] b26
  (br ((!b26))
  (Q (.con (.bool false)) [[i1, i2, s3, l4, i5, s6, l7, i8, i9, i10, i11, l12, s13, l14, l15]])
  ((@Eq PV (.ptr 0 0) (.ptr 0 0) ∧ True) ∧ @Eq Heap [[i1, i2, s3, l4, i5, s6, l7, i8, i9, i10, i11, l12, s13, l14, l15]] [[i1, i2, s3, l4, i5, s6, l7, i8, i9, i10, i11, l12, s13, l14, l15]] ∧ ∃ k27, k27 < n20 ∧ I19 k27 ((IntKind.wrap .i64 (v21.1 + 1)), ())))))
  (Q (.con (.bool true)) [[i1, i2, s3, l4, i5, s6, l7, i8, i9, i10, i11, l12, s13, l14, l15]]))))))))))
theorem a42 (i1 i2 : Int) (s3 : ByteArray) (l4 : List (List PV)) (i5 : Int) (s6 : ByteArray) (l7 : List (List PV)) (i8 i9 i10 i11 : Int) (l12 : List (List PV)) (s13 : ByteArray) (l14 l15 : List (List PV)) (Q : PV → Heap → Prop) (h : p42 i1 i2 s3 l4 i5 s6 l7 i8 i9 i10 i11 l12 s13 l14 l15 Q) : ACalls Tryz.prog 42 [(.agg [i1, i2, s3, l4, i5, s6, l7, i8, i9, i10, i11, l12, s13, l14, l15])] [] Q := by
  have hb : Option.some (bodyOf Tryz.f42) = Tryz.f42.body := by kernel_rfl
  exact acalls_eq (S := S) (L := loops42) mixed tok Tryz.func42 hb.symm (by kernel_rfl) h
def loops7 (id : Nat) : Option (List Nat × List (Nat × Sh)) := none
def p7 (l1 l2 : List (List PV)) (i3 i4 i5 : Int) (s6 : ByteArray) (l7 : List (List PV)) (i8 i9 i10 i11 i12 : Int) (l13 : List (List PV)) (s14 : ByteArray) (l15 l16 l17 : List (List PV)) (Q : PV → Heap → Prop) : Prop :=
∃ i18 : Int, CallN Tryz.prog 32 [(.agg [l1, l2, i3, i4, i5, s6, l7, i8, i9, i10, i11, i12, l13, s14, l15, l16, l17]), (.con (.int .i64 3000))] [[l1, l2, i3, i4, i5, s6, l7, i8, i9, i10, i11, i12, l13, s14, l15, l16, l17]] i18
  (Q (.con (.bool (decide ((i18 : Int) ≥ 0)))) [[l1, l2, i3, i4, i5, s6, l7, i8, i9, i10, i11, i12, l13, s14, l15, l16, l17]])
theorem a7 (l1 l2 : List (List PV)) (i3 i4 i5 : Int) (s6 : ByteArray) (l7 : List (List PV)) (i8 i9 i10 i11 i12 : Int) (l13 : List (List PV)) (s14 : ByteArray) (l15 l16 l17 : List (List PV)) (Q : PV → Heap → Prop) (h : p7 l1 l2 i3 i4 i5 s6 l7 i8 i9 i10 i11 i12 l13 s14 l15 l16 l17 Q) : ACalls Tryz.prog 7 [(.agg [l1, l2, i3, i4, i5, s6, l7, i8, i9, i10, i11, i12, l13, s14, l15, l16, l17])] [] Q := by
  have hb : Option.some (bodyOf Tryz.f7) = Tryz.f7.body := by kernel_rfl
  exact acalls_eq (S := S) (L := loops7) mixed tok Tryz.func7 hb.symm (by kernel_rfl) h
end Go.Proofs.YtcmnjodjebcapaaGreat.Deep

namespace Go.Proofs.YtcmnjodjebcapaaGreat.Deep
open Go.RowKit
set_option linter.unusedVariables false
mutual
def tyP : Ty → List PV
  | .mk k n ps => [.con (.int .i64 k), .con (.string n), .sl (tyPs ps)]
def tyPs : List Ty → List (List PV)
  | [] => []
  | t :: ts => tyP t :: tyPs ts
end
mutual
def ptP : Pt → List PV
  | .mk k li co n m ks => [.con (.int .i64 k), .con (.int .i64 li), .con (.int .i64 co), .con (.string n), .con (.int .i64 m), .sl (ptPs ks)]
def ptPs : List Pt → List (List PV)
  | [] => []
  | t :: ts => ptP t :: ptPs ts
end
def byP (b : List UInt8) : List (List PV) := b.map fun x => [.con (.int .u8 (x.toNat : Int))]
mutual
def exP : Ex → List PV
  | .mk k li co m b n ks ps bs => [.con (.int .i64 k), .con (.int .i64 li), .con (.int .i64 co), .con (.int .i64 m), .sl (byP b), .con (.string n), .sl (exPs ks), .sl (arPs bs ps)]
def exPs : List Ex → List (List PV)
  | [] => []
  | t :: ts => exP t :: exPs ts
def arPs : List Ex → List Pt → List (List PV)
  | b :: bs, p :: ps => (ptP p ++ exP b) :: arPs bs ps
  | _, _ => []
end
theorem tyPs_len : ∀ ts : List Ty, (tyPs ts).length = ts.length
  | [] => rfl
  | t :: ts => by simp [tyPs, tyPs_len ts]
theorem ptPs_len : ∀ ts : List Pt, (ptPs ts).length = ts.length
  | [] => rfl
  | t :: ts => by simp [ptPs, ptPs_len ts]
theorem exPs_len : ∀ ts : List Ex, (exPs ts).length = ts.length
  | [] => rfl
  | t :: ts => by simp [exPs, exPs_len ts]
theorem arPs_len : ∀ (bs : List Ex) (ps : List Pt), ps.length = bs.length → (arPs bs ps).length = bs.length
  | [], ps, _ => by cases ps <;> rfl
  | b :: bs, [], h => by simp at h
  | b :: bs, p :: ps, h => by simp [arPs, arPs_len bs ps (by simpa using h)]
theorem tyPs_get : ∀ (ts : List Ty) (i : Nat) (h : i < ts.length), (tyPs ts)[i]? = some (tyP ts[i])
  | t :: ts, 0, _ => rfl
  | t :: ts, i + 1, h => by simpa [tyPs] using tyPs_get ts i (by simpa using h)
theorem ptPs_get : ∀ (ts : List Pt) (i : Nat) (h : i < ts.length), (ptPs ts)[i]? = some (ptP ts[i])
  | t :: ts, 0, _ => rfl
  | t :: ts, i + 1, h => by simpa [ptPs] using ptPs_get ts i (by simpa using h)
theorem exPs_get : ∀ (ts : List Ex) (i : Nat) (h : i < ts.length), (exPs ts)[i]? = some (exP ts[i])
  | t :: ts, 0, _ => rfl
  | t :: ts, i + 1, h => by simpa [exPs] using exPs_get ts i (by simpa using h)
theorem arPs_get : ∀ (bs : List Ex) (ps : List Pt) (i : Nat) (h : i < bs.length) (h2 : i < ps.length), (arPs bs ps)[i]? = some (ptP ps[i] ++ exP bs[i])
  | b :: bs, p :: ps, 0, _, _ => rfl
  | b :: bs, p :: ps, i + 1, h, h2 => by simpa [arPs] using arPs_get bs ps i (by simpa using h) (by simpa using h2)
mutual
theorem Ty.ind {M : Ty → Prop} (h : ∀ k n ps, (∀ i, (hi : i < ps.length) → M ps[i]) → M (.mk k n ps)) : ∀ t, M t
  | .mk k n ps => h k n ps (Ty.inds h ps)
theorem Ty.inds {M : Ty → Prop} (h : ∀ k n ps, (∀ i, (hi : i < ps.length) → M ps[i]) → M (.mk k n ps)) : ∀ (ts : List Ty) i, (hi : i < ts.length) → M ts[i]
  | t :: ts, 0, _ => Ty.ind h t
  | t :: ts, i + 1, hi => by simpa using Ty.inds h ts i (by simpa using hi)
end
mutual
theorem Pt.ind {M : Pt → Prop} (h : ∀ k li co n m ps, (∀ i, (hi : i < ps.length) → M ps[i]) → M (.mk k li co n m ps)) : ∀ t, M t
  | .mk k li co n m ps => h k li co n m ps (Pt.inds h ps)
theorem Pt.inds {M : Pt → Prop} (h : ∀ k li co n m ps, (∀ i, (hi : i < ps.length) → M ps[i]) → M (.mk k li co n m ps)) : ∀ (ts : List Pt) i, (hi : i < ts.length) → M ts[i]
  | t :: ts, 0, _ => Pt.ind h t
  | t :: ts, i + 1, hi => by simpa using Pt.inds h ts i (by simpa using hi)
end
mutual
theorem Ex.ind {M : Ex → Prop} (h : ∀ k li co m b n ks ps bs, (∀ i, (hi : i < ks.length) → M ks[i]) → (∀ i, (hi : i < bs.length) → M bs[i]) → M (.mk k li co m b n ks ps bs)) : ∀ t, M t
  | .mk k li co m b n ks ps bs => h k li co m b n ks ps bs (Ex.inds h ks) (Ex.inds h bs)
theorem Ex.inds {M : Ex → Prop} (h : ∀ k li co m b n ks ps bs, (∀ i, (hi : i < ks.length) → M ks[i]) → (∀ i, (hi : i < bs.length) → M bs[i]) → M (.mk k li co m b n ks ps bs)) : ∀ (ts : List Ex) i, (hi : i < ts.length) → M ts[i]
  | t :: ts, 0, _ => Ex.ind h t
  | t :: ts, i + 1, hi => by simpa using Ex.inds h ts i (by simpa using hi)
end
theorem pcalls_of {P : Program} {f : FuncId} {us : List Value} {v : Value} (h : ∀ w, Calls P f us.toArray w fun e w' => e = .returned v ∧ Below w.heap.size w w') : PCalls P f (us.map .con) (fun r => r = .con v) := by
  intro G m w vs hs ha
  obtain ⟨a1, a2⟩ := ha
  have e : vs = us.toArray := by
    apply Array.ext
    · simpa using a1
    · intro i hi1 hi2
      have hi3 : i < us.length := by simpa using hi2
      have h0 := a2 i (by simpa using hi3)
      rw [List.getD_eq_getElem?_getD, List.getElem?_map, List.getElem?_eq_getElem hi3] at h0
      have h1 := h0.con_eq
      simpa [Array.getD_eq_getD_getElem?, Array.getElem?_eq_getElem hi1] using h1
  subst e
  exact (h w).mono fun e w' ⟨he, hb⟩ => ⟨_, _, [], G, m, he, ⟨rfl, rfl⟩, .con _ _, (hs.later hb).1, (hs.later hb).2⟩
theorem still_below {P : Program} {f : FuncId} {us : Array Value} {v : Value} {w : World} (h : Calls P f us w fun e w' => e = .returned v ∧ w = w') : Calls P f us w fun e w' => e = .returned v ∧ Below w.heap.size w w' :=
  h.mono fun e w' ⟨he, hw⟩ => ⟨he, hw ▸ Below.refl _ _⟩
theorem rnamed_p (s : ByteArray) (up : Bool) (hs : s.size ≤ 3000) : PCalls Tryz.prog 43 [.con (.string s), .con (.bool up)] (fun r => r = .con (.bool (namedB s up))) := pcalls_of (us := [.string s, .bool up]) (rname_small s up hs)
theorem rsmall_p (s : ByteArray) (hs : s.size ≤ 3000) : PCalls Tryz.prog 93 [.con (.string s)] (fun r => r = .con (.bool (dataB s))) := pcalls_of (us := [.string s]) (rsmall_any s hs)
theorem rcalled_p (s : ByteArray) (hs : s.size ≤ 3000) : PCalls Tryz.prog 94 [.con (.string s)] (fun r => r = .con (.bool (funB s))) := pcalls_of (us := [.string s]) (rcalled_any s hs)
theorem rnumber_p (n : Int) : PCalls Tryz.prog 109 [.con (.int .i64 n)] (fun r => r = .con (.bool (numB n))) := pcalls_of (us := [.int .i64 n]) (fun w => still_below (rnumber_any n w))
theorem rargs_p (n : Int) : PCalls Tryz.prog 170 [.con (.int .i64 n)] (fun r => r = .con (.int .i64 (argsOf n))) := pcalls_of (us := [.int .i64 n]) (fun w => still_below (rargs_any n w))
theorem min_take (n : Nat) : minI (n : Int) 1048576 = take20 n := by unfold minI take20; split <;> split <;> omega
theorem light_ty (t : Ty) : ∀ l : Int, -1099511627776 ≤ l → l ≤ 3000 → PCalls Tryz.prog 10 [.agg (tyP t), .con (.int .i64 l)] (fun r => r = .con (.int .i64 (lightTy t l))) := by
  induction t using Ty.ind with
  | h k n ps ih =>
  intro l h0 h1
  have hn := take20_le n.size
  refine a10 _ _ _ _ _ ?_
  unfold p10
  rw [min_take, wrap_id (n := l - 1) (by omega) (by omega), wrap_id (by omega) (by omega)]
  obtain ⟨L, hL⟩ : ∃ L, lightTy (.mk k n ps) l = L := ⟨_, rfl⟩
  rw [hL]
  unfold lightTy at hL
  rw [tyPs_len]
  refine ⟨fun c v => ∃ j : Nat, j ≤ ps.length ∧ c = ps.length - j ∧ v.2.1 = (j : Int) ∧ lightTys (ps.drop j) v.1 = L ∧ -1099513627776 ≤ v.1 ∧ v.1 + j ≤ 3000, ⟨_, 0, Nat.zero_le _, rfl, rfl, by simpa using hL, by dsimp only; omega, by dsimp only; omega⟩, ?_⟩
  rintro c ⟨cur, i, u⟩ ⟨j, hj, rfl, hi, hLj, b0, b1⟩
  dsimp only at hi hLj b0 b1 ⊢
  subst hi
  refine br_i (fun hlt => ?_) (fun hge => ?_)
  · have hlt : j < ps.length := by simpa using hlt
    rw [List.drop_eq_getElem_cons hlt, lightTys] at hLj
    refine br_i (fun hc => ?_) (fun hc => ?_)
    · have hc : 0 ≤ cur := by simpa using hc
      rw [if_neg (by omega)] at hLj
      have hx := tyPs_get ps j hlt
      obtain ⟨a1, a2, a3, a4⟩ := lightTy_ok ps[j] cur
      have hi := ih j hlt cur (by omega) (by omega)
      obtain ⟨k', n', ps', hp⟩ : ∃ k' n' ps', ps[j] = .mk k' n' ps' := by cases ps[j]; exact ⟨_, _, _, rfl⟩
      rw [hp] at hx hi hLj a1 a2
      refine ⟨_, _, _, ⟨by omega, by rw [Int.toNat_natCast]; exact hx, ?_⟩⟩
      refine ⟨_, call_p (enters_of Tryz.func10 (by kernel_rfl) rfl) hi rfl ⟨⟨rfl, trivial⟩, rfl, ps.length - (j + 1), by omega, j + 1, by omega, rfl, ?_, hLj, ?_, ?_⟩⟩
      · rw [wrap_id (by omega) (by omega)]; simp
      · have := a2 hc; omega
      · omega
    · have hc : cur < 0 := by have : ¬ 0 ≤ cur := by simpa using hc
                              omega
      rw [if_pos hc] at hLj
      exact ⟨by rw [← hLj], rfl⟩
  · have hge : ¬ j < ps.length := by simpa using hge
    rw [List.drop_of_length_le (by omega), lightTys] at hLj
    exact ⟨by rw [← hLj], rfl⟩
theorem light_pt (t : Pt) : ∀ l : Int, -1099511627776 ≤ l → l ≤ 3000 → PCalls Tryz.prog 9 [.agg (ptP t), .con (.int .i64 l)] (fun r => r = .con (.int .i64 (lightPt t l))) := by
  induction t using Pt.ind with
  | h k li co n m ps ih =>
  intro l h0 h1
  have hn := take20_le n.size
  refine a9 _ _ _ _ _ _ _ _ ?_
  unfold p9
  rw [min_take, wrap_id (n := l - 1) (by omega) (by omega), wrap_id (by omega) (by omega)]
  obtain ⟨L, hL⟩ : ∃ L, lightPt (.mk k li co n m ps) l = L := ⟨_, rfl⟩
  rw [hL]
  unfold lightPt at hL
  rw [ptPs_len]
  refine ⟨fun c v => ∃ j : Nat, j ≤ ps.length ∧ c = ps.length - j ∧ v.2.1 = (j : Int) ∧ lightPts (ps.drop j) v.1 = L ∧ -1099513627776 ≤ v.1 ∧ v.1 + j ≤ 3000, ⟨_, 0, Nat.zero_le _, rfl, rfl, by simpa using hL, by dsimp only; omega, by dsimp only; omega⟩, ?_⟩
  rintro c ⟨cur, i, u⟩ ⟨j, hj, rfl, hi, hLj, b0, b1⟩
  dsimp only at hi hLj b0 b1 ⊢
  subst hi
  refine br_i (fun hlt => ?_) (fun hge => ?_)
  · have hlt : j < ps.length := by simpa using hlt
    rw [List.drop_eq_getElem_cons hlt, lightPts] at hLj
    refine br_i (fun hc => ?_) (fun hc => ?_)
    · have hc : 0 ≤ cur := by simpa using hc
      rw [if_neg (by omega)] at hLj
      have hx := ptPs_get ps j hlt
      obtain ⟨a1, a2, a3, a4⟩ := lightPt_ok ps[j] cur
      have hi := ih j hlt cur (by omega) (by omega)
      obtain ⟨k', li', co', n', m', ps', hp⟩ : ∃ k' li' co' n' m' ps', ps[j] = .mk k' li' co' n' m' ps' := by cases ps[j]; exact ⟨_, _, _, _, _, _, rfl⟩
      rw [hp] at hx hi hLj a1 a2
      refine ⟨_, _, _, _, _, _, ⟨by omega, by rw [Int.toNat_natCast]; exact hx, ?_⟩⟩
      refine ⟨_, call_p (enters_of Tryz.func9 (by kernel_rfl) rfl) hi rfl ⟨⟨rfl, trivial⟩, rfl, ps.length - (j + 1), by omega, j + 1, by omega, rfl, ?_, hLj, ?_, ?_⟩⟩
      · rw [wrap_id (by omega) (by omega)]; simp
      · have := a2 hc; omega
      · omega
    · have hc : cur < 0 := by have : ¬ 0 ≤ cur := by simpa using hc
                              omega
      rw [if_pos hc] at hLj
      exact ⟨by rw [← hLj], rfl⟩
  · have hge : ¬ j < ps.length := by simpa using hge
    rw [List.drop_of_length_le (by omega), lightPts] at hLj
    exact ⟨by rw [← hLj], rfl⟩
theorem wfExs_at : ∀ (ks : List Ex), wfExs ks → ∀ i (h : i < ks.length), wfEx ks[i]
  | t :: ts, hs, 0, _ => by unfold wfExs at hs; exact hs.1
  | t :: ts, hs, i + 1, h => by unfold wfExs at hs; simpa using wfExs_at ts hs.2 i (by simpa using h)
theorem light_ex (t : Ex) : wfEx t → ∀ l : Int, -1099511627776 ≤ l → l ≤ 3000 → PCalls Tryz.prog 8 [.agg (exP t), .con (.int .i64 l)] (fun r => r = .con (.int .i64 (lightEx t l))) := by
  induction t using Ex.ind with
  | h k li co m b n ks ps bs ihk ihb =>
  intro hw l h0 h1
  have hn := take20_le n.size
  have hbb := take20_le b.length
  unfold wfEx at hw
  obtain ⟨hpb, hwk, hwb⟩ := hw
  refine a8 _ _ _ _ _ _ _ _ _ _ ?_
  unfold p8
  rw [min_take, show (byP b).length = b.length by simp [byP], min_take, wrap_id (n := l - 1) (by omega) (by omega), wrap_id (n := l - 1 - take20 b.length) (by omega) (by omega), wrap_id (by omega) (by omega)]
  obtain ⟨L, hL⟩ : ∃ L, lightEx (.mk k li co m b n ks ps bs) l = L := ⟨_, rfl⟩
  rw [hL]
  unfold lightEx at hL
  rw [exPs_len, arPs_len bs ps hpb]
  refine ⟨fun c v => ∃ j : Nat, j ≤ ks.length ∧ c = ks.length - j ∧ v.2.1 = (j : Int) ∧ lightArms bs ps (lightExs (ks.drop j) v.1) = L ∧ -1099513727776 ≤ v.1 ∧ v.1 + j ≤ 3000, ⟨_, 0, Nat.zero_le _, rfl, rfl, by simpa using hL, by dsimp only; omega, by dsimp only; omega⟩, ?_⟩
  rintro c ⟨cur, i, u⟩ ⟨j, hj, rfl, hi, hLj, b0, b1⟩
  dsimp only at hi hLj b0 b1 ⊢
  subst hi
  by_cases hgo : j < ks.length ∧ 0 ≤ cur
  · obtain ⟨hlt, hc⟩ := hgo
    rw [List.drop_eq_getElem_cons hlt, lightExs, if_neg (by omega)] at hLj
    have hx := exPs_get ks j hlt
    obtain ⟨a1, a2, a3, a4⟩ := lightEx_ok ks[j] cur
    have hi := ihk j hlt (wfExs_at ks hwk j hlt) cur (by omega) (by omega)
    obtain ⟨k', li', co', m', b', n', ks', ps', bs', hp⟩ : ∃ k' li' co' m' b' n' ks' ps' bs', ks[j] = .mk k' li' co' m' b' n' ks' ps' bs' := by cases ks[j]; exact ⟨_, _, _, _, _, _, _, _, _, rfl⟩
    rw [hp] at hx hi hLj a1 a2
    refine br_i (fun _ => br_i (fun _ => ?_) (fun hf => absurd hc (by simpa using hf))) (fun hf => absurd hlt (by simpa using hf))
    refine ⟨_, _, _, _, _, _, _, _, ⟨by omega, by rw [Int.toNat_natCast]; exact hx, ?_⟩⟩
    refine ⟨_, call_p (enters_of Tryz.func8 (by kernel_rfl) rfl) hi rfl ⟨⟨rfl, trivial⟩, rfl, ks.length - (j + 1), by omega, j + 1, by omega, rfl, ?_, hLj, ?_, ?_⟩⟩
    · rw [wrap_id (by omega) (by omega)]; simp
    · have := a2 hc; omega
    · omega
  replace hLj : lightArms bs ps cur = L := by
    by_cases hlt : j < ks.length
    · rw [List.drop_eq_getElem_cons hlt, lightExs, if_pos (by omega)] at hLj; exact hLj
    · rw [List.drop_of_length_le (by omega), lightExs] at hLj; exact hLj
  refine br_i (fun hlt => br_i (fun hc => absurd ⟨by simpa using hlt, by simpa using hc⟩ hgo) (fun hc => ?_)) (fun hge => ?_)
  all_goals
    refine ⟨fun c v => ∃ j : Nat, j ≤ bs.length ∧ c = bs.length - j ∧ v.2.1 = (j : Int) ∧ lightArms (bs.drop j) (ps.drop j) v.1 = L ∧ -1099513827776 ≤ v.1 ∧ v.1 + j ≤ 3000, ⟨_, 0, Nat.zero_le _, rfl, rfl, by simpa using hLj, by dsimp only; omega, by dsimp only; omega⟩, ?_⟩
    rintro c ⟨cur2, i, u⟩ ⟨j2, hj2, rfl, hi, hLj2, b2, b3⟩
    dsimp only at hi hLj2 b2 b3 ⊢
    subst hi
    refine br_i (fun hlt2 => ?_) (fun hge2 => ?_)
    · have hlt2 : j2 < bs.length := by simpa using hlt2
      have hlt3 : j2 < ps.length := by omega
      rw [List.drop_eq_getElem_cons hlt2, List.drop_eq_getElem_cons hlt3, lightArms] at hLj2
      refine br_i (fun hc2 => ?_) (fun hc2 => ?_)
      · have hc2 : 0 ≤ cur2 := by simpa using hc2
        rw [if_neg (by omega)] at hLj2
        have hx := arPs_get bs ps j2 hlt2 hlt3
        obtain ⟨a1, a2, a3, a4⟩ := lightPt_ok ps[j2] cur2
        have q2 := a2 hc2
        obtain ⟨c1, c2, c3, c4⟩ := lightEx_ok bs[j2] (lightPt ps[j2] cur2)
        have q3 : -4194304 - 2097153 ≤ lightEx bs[j2] (lightPt ps[j2] cur2) := by
          by_cases hneg : lightPt ps[j2] cur2 < 0
          · have := c3 hneg; omega
          · have := c2 (by omega); omega
        have hp1 := light_pt ps[j2] cur2 (by omega) (by omega)
        have hi := ihb j2 hlt2 (wfExs_at bs hwb j2 hlt2) (lightPt ps[j2] cur2) (by omega) (by omega)
        obtain ⟨k', li', co', m', b', n', ks', ps', bs', hp⟩ : ∃ k' li' co' m' b' n' ks' ps' bs', bs[j2] = .mk k' li' co' m' b' n' ks' ps' bs' := by cases bs[j2]; exact ⟨_, _, _, _, _, _, _, _, _, rfl⟩
        obtain ⟨k2', li2', co2', n2', m2', ps2', hp2⟩ : ∃ k' li' co' n' m' ps', ps[j2] = .mk k' li' co' n' m' ps' := by cases ps[j2]; exact ⟨_, _, _, _, _, _, rfl⟩
        rw [hp, hp2] at hx hi hLj2 c1 q3
        rw [hp2] at hp1 a1
        refine ⟨_, _, _, _, _, _, _, _, _, _, _, _, _, _, ⟨by omega, by rw [Int.toNat_natCast]; exact hx, ?_⟩⟩
        refine ⟨_, _, _, _, _, _, _, _, _, _, _, _, _, _, ⟨by omega, by rw [Int.toNat_natCast]; exact hx, ?_⟩⟩
        refine ⟨_, call_p (enters_of Tryz.func9 (by kernel_rfl) rfl) hp1 rfl ?_⟩
        refine ⟨_, call_p (enters_of Tryz.func8 (by kernel_rfl) rfl) hi rfl ⟨⟨rfl, trivial⟩, rfl, bs.length - (j2 + 1), by omega, j2 + 1, by omega, rfl, ?_, hLj2, ?_, ?_⟩⟩
        · rw [wrap_id (by omega) (by omega)]; simp
        · omega
        · omega
      · have hc2 : cur2 < 0 := by have : ¬ 0 ≤ cur2 := by simpa using hc2
                                  omega
        rw [if_pos hc2] at hLj2
        exact ⟨by rw [← hLj2], rfl⟩
    · have hge2 : ¬ j2 < bs.length := by simpa using hge2
      rw [List.drop_of_length_le (by omega), lightArms] at hLj2
      · exact ⟨by rw [← hLj2], rfl⟩
      · simp
end Go.Proofs.YtcmnjodjebcapaaGreat.Deep

namespace Go.Proofs.YtcmnjodjebcapaaGreat.Deep
open Go.RowKit
set_option linter.unusedVariables false
def loops105 (id : Nat) : Option (List Nat × List (Nat × Sh)) := none
def p105 (i1 i2 i3 i4 : Int) (l5 : List (List PV)) (s6 : ByteArray) (l7 l8 : List (List PV)) (Q : PV → Heap → Prop) : Prop :=
br (((i4 : Int) == 0))
  (br (((i1 : Int) != 8))
  (br ((decide (((List.length l8 : Int) : Int) > 0)))
  (Q (.con (.bool false)) [[i1, i2, i3, i4, l5, s6, l7, l8]])
  (br (((i1 : Int) != 1))
  (br ((decide (((List.length l5 : Int) : Int) > 0)))
  (Q (.con (.bool false)) [[i1, i2, i3, i4, l5, s6, l7, l8]])
  (br (((i1 : Int) == 0))
  (br ((ByteArray.toList s6 == ByteArray.toList ⟨#[]⟩))
  (br ((((List.length l7 : Int) : Int) == 0))
  (∃ b9 : Bool, CallN Tryz.prog 109 [i4] [[i1, i2, i3, i4, l5, s6, l7, l8]] b9
  (Q b9 [[i1, i2, i3, i4, l5, s6, l7, l8]]))
  (Q (.con (.bool false)) [[i1, i2, i3, i4, l5, s6, l7, l8]]))
  (Q (.con (.bool false)) [[i1, i2, i3, i4, l5, s6, l7, l8]]))
  (br (((i1 : Int) == 1))
  (br ((ByteArray.toList s6 == ByteArray.toList ⟨#[]⟩))
  (br ((((List.length l7 : Int) : Int) == 0))
  (br (((i4 : Int) == 0))
  (Q (.con (.bool (decide (((List.length l5 : Int) : Int) ≤ 64)))) [[i1, i2, i3, i4, l5, s6, l7, l8]])
  (Q (.con (.bool false)) [[i1, i2, i3, i4, l5, s6, l7, l8]]))
  (Q (.con (.bool false)) [[i1, i2, i3, i4, l5, s6, l7, l8]]))
  (Q (.con (.bool false)) [[i1, i2, i3, i4, l5, s6, l7, l8]]))
  (br (((i1 : Int) == 2))
  (br ((((List.length l5 : Int) : Int) == 0))
  (br ((((List.length l7 : Int) : Int) == 0))
  (∃ b10 : Bool, CallN Tryz.prog 43 [s6, (.con (.bool false))] [[i1, i2, i3, i4, l5, s6, l7, l8]] b10
  (br (b10)
  (Q (.con (.bool true)) [[i1, i2, i3, i4, l5, s6, l7, l8]])
  (Q (.con (.bool (ByteArray.toList s6 == ByteArray.toList ⟨#[115, 116, 97, 116, 101]⟩))) [[i1, i2, i3, i4, l5, s6, l7, l8]])))
  (Q (.con (.bool false)) [[i1, i2, i3, i4, l5, s6, l7, l8]]))
  (Q (.con (.bool false)) [[i1, i2, i3, i4, l5, s6, l7, l8]]))
  (br (((i1 : Int) == 3))
  (br ((((List.length l5 : Int) : Int) == 0))
  (∃ b11 : Bool, CallN Tryz.prog 43 [s6, (.con (.bool true))] [[i1, i2, i3, i4, l5, s6, l7, l8]] b11
  (br (b11)
  (Q (.con (.bool (decide (((List.length l7 : Int) : Int) ≤ 6)))) [[i1, i2, i3, i4, l5, s6, l7, l8]])
  (Q (.con (.bool false)) [[i1, i2, i3, i4, l5, s6, l7, l8]])))
  (Q (.con (.bool false)) [[i1, i2, i3, i4, l5, s6, l7, l8]]))
  (br (((i1 : Int) == 4))
  (br ((((List.length l5 : Int) : Int) == 0))
  (br ((ByteArray.toList s6 == ByteArray.toList ⟨#[]⟩))
  (br ((decide (((List.length l7 : Int) : Int) ≥ 2)))
  (Q (.con (.bool (decide (((List.length l7 : Int) : Int) ≤ 6)))) [[i1, i2, i3, i4, l5, s6, l7, l8]])
  (Q (.con (.bool false)) [[i1, i2, i3, i4, l5, s6, l7, l8]]))
  (Q (.con (.bool false)) [[i1, i2, i3, i4, l5, s6, l7, l8]]))
  (Q (.con (.bool false)) [[i1, i2, i3, i4, l5, s6, l7, l8]]))
  (br (((i1 : Int) == 5))
  (br ((((List.length l5 : Int) : Int) == 0))
  (∃ b12 : Bool, CallN Tryz.prog 94 [s6] [[i1, i2, i3, i4, l5, s6, l7, l8]] b12
  (br (b12)
  (br ((decide (((List.length l7 : Int) : Int) ≥ 1)))
  (Q (.con (.bool (decide (((List.length l7 : Int) : Int) ≤ 6)))) [[i1, i2, i3, i4, l5, s6, l7, l8]])
  (Q (.con (.bool false)) [[i1, i2, i3, i4, l5, s6, l7, l8]]))
  (Q (.con (.bool false)) [[i1, i2, i3, i4, l5, s6, l7, l8]])))
  (Q (.con (.bool false)) [[i1, i2, i3, i4, l5, s6, l7, l8]]))
  (br (((i1 : Int) == 6))
  (br ((((List.length l5 : Int) : Int) == 0))
  (∃ b13 : Bool, CallN Tryz.prog 43 [s6, (.con (.bool false))] [[i1, i2, i3, i4, l5, s6, l7, l8]] b13
  (br (b13)
  (Q (.con (.bool (((List.length l7 : Int) : Int) == 2))) [[i1, i2, i3, i4, l5, s6, l7, l8]])
  (Q (.con (.bool false)) [[i1, i2, i3, i4, l5, s6, l7, l8]])))
  (Q (.con (.bool false)) [[i1, i2, i3, i4, l5, s6, l7, l8]]))
  (br (((i1 : Int) == 7))
  (br ((((List.length l5 : Int) : Int) == 0))
  (br ((ByteArray.toList s6 == ByteArray.toList ⟨#[]⟩))
  (Q (.con (.bool (((List.length l7 : Int) : Int) == 3))) [[i1, i2, i3, i4, l5, s6, l7, l8]])
  (Q (.con (.bool false)) [[i1, i2, i3, i4, l5, s6, l7, l8]]))
  (Q (.con (.bool false)) [[i1, i2, i3, i4, l5, s6, l7, l8]]))
  (br (((i1 : Int) == 8))
  (br ((((List.length l5 : Int) : Int) == 0))
  (br ((ByteArray.toList s6 == ByteArray.toList ⟨#[]⟩))
  (br ((((List.length l7 : Int) : Int) == 1))
  (br ((decide (((List.length l8 : Int) : Int) ≥ 1)))
  (Q (.con (.bool (decide (((List.length l8 : Int) : Int) ≤ 32)))) [[i1, i2, i3, i4, l5, s6, l7, l8]])
  (Q (.con (.bool false)) [[i1, i2, i3, i4, l5, s6, l7, l8]]))
  (Q (.con (.bool false)) [[i1, i2, i3, i4, l5, s6, l7, l8]]))
  (Q (.con (.bool false)) [[i1, i2, i3, i4, l5, s6, l7, l8]]))
  (Q (.con (.bool false)) [[i1, i2, i3, i4, l5, s6, l7, l8]]))
  (br (((i1 : Int) == 9))
  (br ((ByteArray.toList s6 == ByteArray.toList ⟨#[]⟩))
  (br ((decide ((i4 : Int) ≥ 0)))
  (br ((decide ((i4 : Int) < 12)))
  (∃ i14 : Int, CallN Tryz.prog 170 [i4] [[i1, i2, i3, i4, l5, s6, l7, l8]] i14
  (Q (.con (.bool (((List.length l7 : Int) : Int) == i14))) [[i1, i2, i3, i4, l5, s6, l7, l8]]))
  (Q (.con (.bool false)) [[i1, i2, i3, i4, l5, s6, l7, l8]]))
  (Q (.con (.bool false)) [[i1, i2, i3, i4, l5, s6, l7, l8]]))
  (Q (.con (.bool false)) [[i1, i2, i3, i4, l5, s6, l7, l8]]))
  (br (((i1 : Int) == 10))
  (br ((decide ((i4 : Int) ≥ 0)))
  (br ((decide ((i4 : Int) ≤ 1000)))
  (∃ b15 : Bool, CallN Tryz.prog 43 [s6, (.con (.bool false))] [[i1, i2, i3, i4, l5, s6, l7, l8]] b15
  (br (b15)
  (Q (.con (.bool (((List.length l7 : Int) : Int) == 2))) [[i1, i2, i3, i4, l5, s6, l7, l8]])
  (Q (.con (.bool false)) [[i1, i2, i3, i4, l5, s6, l7, l8]])))
  (Q (.con (.bool false)) [[i1, i2, i3, i4, l5, s6, l7, l8]]))
  (Q (.con (.bool false)) [[i1, i2, i3, i4, l5, s6, l7, l8]]))
  (Q (.con (.bool false)) [[i1, i2, i3, i4, l5, s6, l7, l8]])))))))))))))
  (br (((i1 : Int) == 0))
  (br ((ByteArray.toList s6 == ByteArray.toList ⟨#[]⟩))
  (br ((((List.length l7 : Int) : Int) == 0))
  (∃ b16 : Bool, CallN Tryz.prog 109 [i4] [[i1, i2, i3, i4, l5, s6, l7, l8]] b16
  (Q b16 [[i1, i2, i3, i4, l5, s6, l7, l8]]))
  (Q (.con (.bool false)) [[i1, i2, i3, i4, l5, s6, l7, l8]]))
  (Q (.con (.bool false)) [[i1, i2, i3, i4, l5, s6, l7, l8]]))
  (br (((i1 : Int) == 1))
  (br ((ByteArray.toList s6 == ByteArray.toList ⟨#[]⟩))
  (br ((((List.length l7 : Int) : Int) == 0))
  (br (((i4 : Int) == 0))
  (Q (.con (.bool (decide (((List.length l5 : Int) : Int) ≤ 64)))) [[i1, i2, i3, i4, l5, s6, l7, l8]])
  (Q (.con (.bool false)) [[i1, i2, i3, i4, l5, s6, l7, l8]]))
  (Q (.con (.bool false)) [[i1, i2, i3, i4, l5, s6, l7, l8]]))
  (Q (.con (.bool false)) [[i1, i2, i3, i4, l5, s6, l7, l8]]))
  (br (((i1 : Int) == 2))
  (br ((((List.length l5 : Int) : Int) == 0))
  (br ((((List.length l7 : Int) : Int) == 0))
  (∃ b17 : Bool, CallN Tryz.prog 43 [s6, (.con (.bool false))] [[i1, i2, i3, i4, l5, s6, l7, l8]] b17
  (br (b17)
  (Q (.con (.bool true)) [[i1, i2, i3, i4, l5, s6, l7, l8]])
  (Q (.con (.bool (ByteArray.toList s6 == ByteArray.toList ⟨#[115, 116, 97, 116, 101]⟩))) [[i1, i2, i3, i4, l5, s6, l7, l8]])))
  (Q (.con (.bool false)) [[i1, i2, i3, i4, l5, s6, l7, l8]]))
  (Q (.con (.bool false)) [[i1, i2, i3, i4, l5, s6, l7, l8]]))
  (br (((i1 : Int) == 3))
  (br ((((List.length l5 : Int) : Int) == 0))
  (∃ b18 : Bool, CallN Tryz.prog 43 [s6, (.con (.bool true))] [[i1, i2, i3, i4, l5, s6, l7, l8]] b18
  (br (b18)
  (Q (.con (.bool (decide (((List.length l7 : Int) : Int) ≤ 6)))) [[i1, i2, i3, i4, l5, s6, l7, l8]])
  (Q (.con (.bool false)) [[i1, i2, i3, i4, l5, s6, l7, l8]])))
  (Q (.con (.bool false)) [[i1, i2, i3, i4, l5, s6, l7, l8]]))
  (br (((i1 : Int) == 4))
  (br ((((List.length l5 : Int) : Int) == 0))
  (br ((ByteArray.toList s6 == ByteArray.toList ⟨#[]⟩))
  (br ((decide (((List.length l7 : Int) : Int) ≥ 2)))
  (Q (.con (.bool (decide (((List.length l7 : Int) : Int) ≤ 6)))) [[i1, i2, i3, i4, l5, s6, l7, l8]])
  (Q (.con (.bool false)) [[i1, i2, i3, i4, l5, s6, l7, l8]]))
  (Q (.con (.bool false)) [[i1, i2, i3, i4, l5, s6, l7, l8]]))
  (Q (.con (.bool false)) [[i1, i2, i3, i4, l5, s6, l7, l8]]))
  (br (((i1 : Int) == 5))
  (br ((((List.length l5 : Int) : Int) == 0))
  (∃ b19 : Bool, CallN Tryz.prog 94 [s6] [[i1, i2, i3, i4, l5, s6, l7, l8]] b19
  (br (b19)
  (br ((decide (((List.length l7 : Int) : Int) ≥ 1)))
  (Q (.con (.bool (decide (((List.length l7 : Int) : Int) ≤ 6)))) [[i1, i2, i3, i4, l5, s6, l7, l8]])
  (Q (.con (.bool false)) [[i1, i2, i3, i4, l5, s6, l7, l8]]))
  (Q (.con (.bool false)) [[i1, i2, i3, i4, l5, s6, l7, l8]])))
  (Q (.con (.bool false)) [[i1, i2, i3, i4, l5, s6, l7, l8]]))
  (br (((i1 : Int) == 6))
  (br ((((List.length l5 : Int) : Int) == 0))
  (∃ b20 : Bool, CallN Tryz.prog 43 [s6, (.con (.bool false))] [[i1, i2, i3, i4, l5, s6, l7, l8]] b20
  (br (b20)
  (Q (.con (.bool (((List.length l7 : Int) : Int) == 2))) [[i1, i2, i3, i4, l5, s6, l7, l8]])
  (Q (.con (.bool false)) [[i1, i2, i3, i4, l5, s6, l7, l8]])))
  (Q (.con (.bool false)) [[i1, i2, i3, i4, l5, s6, l7, l8]]))
  (br (((i1 : Int) == 7))
  (br ((((List.length l5 : Int) : Int) == 0))
  (br ((ByteArray.toList s6 == ByteArray.toList ⟨#[]⟩))
  (Q (.con (.bool (((List.length l7 : Int) : Int) == 3))) [[i1, i2, i3, i4, l5, s6, l7, l8]])
  (Q (.con (.bool false)) [[i1, i2, i3, i4, l5, s6, l7, l8]]))
  (Q (.con (.bool false)) [[i1, i2, i3, i4, l5, s6, l7, l8]]))
  (br (((i1 : Int) == 8))
  (br ((((List.length l5 : Int) : Int) == 0))
  (br ((ByteArray.toList s6 == ByteArray.toList ⟨#[]⟩))
  (br ((((List.length l7 : Int) : Int) == 1))
  (br ((decide (((List.length l8 : Int) : Int) ≥ 1)))
  (Q (.con (.bool (decide (((List.length l8 : Int) : Int) ≤ 32)))) [[i1, i2, i3, i4, l5, s6, l7, l8]])
  (Q (.con (.bool false)) [[i1, i2, i3, i4, l5, s6, l7, l8]]))
  (Q (.con (.bool false)) [[i1, i2, i3, i4, l5, s6, l7, l8]]))
  (Q (.con (.bool false)) [[i1, i2, i3, i4, l5, s6, l7, l8]]))
  (Q (.con (.bool false)) [[i1, i2, i3, i4, l5, s6, l7, l8]]))
  (br (((i1 : Int) == 9))
  (br ((ByteArray.toList s6 == ByteArray.toList ⟨#[]⟩))
  (br ((decide ((i4 : Int) ≥ 0)))
  (br ((decide ((i4 : Int) < 12)))
  (∃ i21 : Int, CallN Tryz.prog 170 [i4] [[i1, i2, i3, i4, l5, s6, l7, l8]] i21
  (Q (.con (.bool (((List.length l7 : Int) : Int) == i21))) [[i1, i2, i3, i4, l5, s6, l7, l8]]))
  (Q (.con (.bool false)) [[i1, i2, i3, i4, l5, s6, l7, l8]]))
  (Q (.con (.bool false)) [[i1, i2, i3, i4, l5, s6, l7, l8]]))
  (Q (.con (.bool false)) [[i1, i2, i3, i4, l5, s6, l7, l8]]))
  (br (((i1 : Int) == 10))
  (br ((decide ((i4 : Int) ≥ 0)))
  (br ((decide ((i4 : Int) ≤ 1000)))
  (∃ b22 : Bool, CallN Tryz.prog 43 [s6, (.con (.bool false))] [[i1, i2, i3, i4, l5, s6, l7, l8]] b22
  (br (b22)
  (Q (.con (.bool (((List.length l7 : Int) : Int) == 2))) [[i1, i2, i3, i4, l5, s6, l7, l8]])
  (Q (.con (.bool false)) [[i1, i2, i3, i4, l5, s6, l7, l8]])))
  (Q (.con (.bool false)) [[i1, i2, i3, i4, l5, s6, l7, l8]]))
  (Q (.con (.bool false)) [[i1, i2, i3, i4, l5, s6, l7, l8]]))
  (Q (.con (.bool false)) [[i1, i2, i3, i4, l5, s6, l7, l8]]))))))))))))))
  (br (((i1 : Int) != 1))
  (br ((decide (((List.length l5 : Int) : Int) > 0)))
  (Q (.con (.bool false)) [[i1, i2, i3, i4, l5, s6, l7, l8]])
  (br (((i1 : Int) == 0))
  (br ((ByteArray.toList s6 == ByteArray.toList ⟨#[]⟩))
  (br ((((List.length l7 : Int) : Int) == 0))
  (∃ b23 : Bool, CallN Tryz.prog 109 [i4] [[i1, i2, i3, i4, l5, s6, l7, l8]] b23
  (Q b23 [[i1, i2, i3, i4, l5, s6, l7, l8]]))
  (Q (.con (.bool false)) [[i1, i2, i3, i4, l5, s6, l7, l8]]))
  (Q (.con (.bool false)) [[i1, i2, i3, i4, l5, s6, l7, l8]]))
  (br (((i1 : Int) == 1))
  (br ((ByteArray.toList s6 == ByteArray.toList ⟨#[]⟩))
  (br ((((List.length l7 : Int) : Int) == 0))
  (br (((i4 : Int) == 0))
  (Q (.con (.bool (decide (((List.length l5 : Int) : Int) ≤ 64)))) [[i1, i2, i3, i4, l5, s6, l7, l8]])
  (Q (.con (.bool false)) [[i1, i2, i3, i4, l5, s6, l7, l8]]))
  (Q (.con (.bool false)) [[i1, i2, i3, i4, l5, s6, l7, l8]]))
  (Q (.con (.bool false)) [[i1, i2, i3, i4, l5, s6, l7, l8]]))
  (br (((i1 : Int) == 2))
  (br ((((List.length l5 : Int) : Int) == 0))
  (br ((((List.length l7 : Int) : Int) == 0))
  (∃ b24 : Bool, CallN Tryz.prog 43 [s6, (.con (.bool false))] [[i1, i2, i3, i4, l5, s6, l7, l8]] b24
  (br (b24)
  (Q (.con (.bool true)) [[i1, i2, i3, i4, l5, s6, l7, l8]])
  (Q (.con (.bool (ByteArray.toList s6 == ByteArray.toList ⟨#[115, 116, 97, 116, 101]⟩))) [[i1, i2, i3, i4, l5, s6, l7, l8]])))
  (Q (.con (.bool false)) [[i1, i2, i3, i4, l5, s6, l7, l8]]))
  (Q (.con (.bool false)) [[i1, i2, i3, i4, l5, s6, l7, l8]]))
  (br (((i1 : Int) == 3))
  (br ((((List.length l5 : Int) : Int) == 0))
  (∃ b25 : Bool, CallN Tryz.prog 43 [s6, (.con (.bool true))] [[i1, i2, i3, i4, l5, s6, l7, l8]] b25
  (br (b25)
  (Q (.con (.bool (decide (((List.length l7 : Int) : Int) ≤ 6)))) [[i1, i2, i3, i4, l5, s6, l7, l8]])
  (Q (.con (.bool false)) [[i1, i2, i3, i4, l5, s6, l7, l8]])))
  (Q (.con (.bool false)) [[i1, i2, i3, i4, l5, s6, l7, l8]]))
  (br (((i1 : Int) == 4))
  (br ((((List.length l5 : Int) : Int) == 0))
  (br ((ByteArray.toList s6 == ByteArray.toList ⟨#[]⟩))
  (br ((decide (((List.length l7 : Int) : Int) ≥ 2)))
  (Q (.con (.bool (decide (((List.length l7 : Int) : Int) ≤ 6)))) [[i1, i2, i3, i4, l5, s6, l7, l8]])
  (Q (.con (.bool false)) [[i1, i2, i3, i4, l5, s6, l7, l8]]))
  (Q (.con (.bool false)) [[i1, i2, i3, i4, l5, s6, l7, l8]]))
  (Q (.con (.bool false)) [[i1, i2, i3, i4, l5, s6, l7, l8]]))
  (br (((i1 : Int) == 5))
  (br ((((List.length l5 : Int) : Int) == 0))
  (∃ b26 : Bool, CallN Tryz.prog 94 [s6] [[i1, i2, i3, i4, l5, s6, l7, l8]] b26
  (br (b26)
  (br ((decide (((List.length l7 : Int) : Int) ≥ 1)))
  (Q (.con (.bool (decide (((List.length l7 : Int) : Int) ≤ 6)))) [[i1, i2, i3, i4, l5, s6, l7, l8]])
  (Q (.con (.bool false)) [[i1, i2, i3, i4, l5, s6, l7, l8]]))
  (Q (.con (.bool false)) [[i1, i2, i3, i4, l5, s6, l7, l8]])))
  (Q (.con (.bool false)) [[i1, i2, i3, i4, l5, s6, l7, l8]]))
  (br (((i1 : Int) == 6))
  (br ((((List.length l5 : Int) : Int) == 0))
  (∃ b27 : Bool, CallN Tryz.prog 43 [s6, (.con (.bool false))] [[i1, i2, i3, i4, l5, s6, l7, l8]] b27
  (br (b27)
  (Q (.con (.bool (((List.length l7 : Int) : Int) == 2))) [[i1, i2, i3, i4, l5, s6, l7, l8]])
  (Q (.con (.bool false)) [[i1, i2, i3, i4, l5, s6, l7, l8]])))
  (Q (.con (.bool false)) [[i1, i2, i3, i4, l5, s6, l7, l8]]))
  (br (((i1 : Int) == 7))
  (br ((((List.length l5 : Int) : Int) == 0))
  (br ((ByteArray.toList s6 == ByteArray.toList ⟨#[]⟩))
  (Q (.con (.bool (((List.length l7 : Int) : Int) == 3))) [[i1, i2, i3, i4, l5, s6, l7, l8]])
  (Q (.con (.bool false)) [[i1, i2, i3, i4, l5, s6, l7, l8]]))
  (Q (.con (.bool false)) [[i1, i2, i3, i4, l5, s6, l7, l8]]))
  (br (((i1 : Int) == 8))
  (br ((((List.length l5 : Int) : Int) == 0))
  (br ((ByteArray.toList s6 == ByteArray.toList ⟨#[]⟩))
  (br ((((List.length l7 : Int) : Int) == 1))
  (br ((decide (((List.length l8 : Int) : Int) ≥ 1)))
  (Q (.con (.bool (decide (((List.length l8 : Int) : Int) ≤ 32)))) [[i1, i2, i3, i4, l5, s6, l7, l8]])
  (Q (.con (.bool false)) [[i1, i2, i3, i4, l5, s6, l7, l8]]))
  (Q (.con (.bool false)) [[i1, i2, i3, i4, l5, s6, l7, l8]]))
  (Q (.con (.bool false)) [[i1, i2, i3, i4, l5, s6, l7, l8]]))
  (Q (.con (.bool false)) [[i1, i2, i3, i4, l5, s6, l7, l8]]))
  (br (((i1 : Int) == 9))
  (br ((ByteArray.toList s6 == ByteArray.toList ⟨#[]⟩))
  (br ((decide ((i4 : Int) ≥ 0)))
  (br ((decide ((i4 : Int) < 12)))
  (∃ i28 : Int, CallN Tryz.prog 170 [i4] [[i1, i2, i3, i4, l5, s6, l7, l8]] i28
  (Q (.con (.bool (((List.length l7 : Int) : Int) == i28))) [[i1, i2, i3, i4, l5, s6, l7, l8]]))
  (Q (.con (.bool false)) [[i1, i2, i3, i4, l5, s6, l7, l8]]))
  (Q (.con (.bool false)) [[i1, i2, i3, i4, l5, s6, l7, l8]]))
  (Q (.con (.bool false)) [[i1, i2, i3, i4, l5, s6, l7, l8]]))
  (br (((i1 : Int) == 10))
  (br ((decide ((i4 : Int) ≥ 0)))
  (br ((decide ((i4 : Int) ≤ 1000)))
  (∃ b29 : Bool, CallN Tryz.prog 43 [s6, (.con (.bool false))] [[i1, i2, i3, i4, l5, s6, l7, l8]] b29
  (br (b29)
  (Q (.con (.bool (((List.length l7 : Int) : Int) == 2))) [[i1, i2, i3, i4, l5, s6, l7, l8]])
  (Q (.con (.bool false)) [[i1, i2, i3, i4, l5, s6, l7, l8]])))
  (Q (.con (.bool false)) [[i1, i2, i3, i4, l5, s6, l7, l8]]))
  (Q (.con (.bool false)) [[i1, i2, i3, i4, l5, s6, l7, l8]]))
  (Q (.con (.bool false)) [[i1, i2, i3, i4, l5, s6, l7, l8]])))))))))))))
  (br (((i1 : Int) == 0))
  (br ((ByteArray.toList s6 == ByteArray.toList ⟨#[]⟩))
  (br ((((List.length l7 : Int) : Int) == 0))
  (∃ b30 : Bool, CallN Tryz.prog 109 [i4] [[i1, i2, i3, i4, l5, s6, l7, l8]] b30
  (Q b30 [[i1, i2, i3, i4, l5, s6, l7, l8]]))
  (Q (.con (.bool false)) [[i1, i2, i3, i4, l5, s6, l7, l8]]))
  (Q (.con (.bool false)) [[i1, i2, i3, i4, l5, s6, l7, l8]]))
  (br (((i1 : Int) == 1))
  (br ((ByteArray.toList s6 == ByteArray.toList ⟨#[]⟩))
  (br ((((List.length l7 : Int) : Int) == 0))
  (br (((i4 : Int) == 0))
  (Q (.con (.bool (decide (((List.length l5 : Int) : Int) ≤ 64)))) [[i1, i2, i3, i4, l5, s6, l7, l8]])
  (Q (.con (.bool false)) [[i1, i2, i3, i4, l5, s6, l7, l8]]))
  (Q (.con (.bool false)) [[i1, i2, i3, i4, l5, s6, l7, l8]]))
  (Q (.con (.bool false)) [[i1, i2, i3, i4, l5, s6, l7, l8]]))
  (br (((i1 : Int) == 2))
  (br ((((List.length l5 : Int) : Int) == 0))
  (br ((((List.length l7 : Int) : Int) == 0))
  (∃ b31 : Bool, CallN Tryz.prog 43 [s6, (.con (.bool false))] [[i1, i2, i3, i4, l5, s6, l7, l8]] b31
  (br (b31)
  (Q (.con (.bool true)) [[i1, i2, i3, i4, l5, s6, l7, l8]])
  (Q (.con (.bool (ByteArray.toList s6 == ByteArray.toList ⟨#[115, 116, 97, 116, 101]⟩))) [[i1, i2, i3, i4, l5, s6, l7, l8]])))
  (Q (.con (.bool false)) [[i1, i2, i3, i4, l5, s6, l7, l8]]))
  (Q (.con (.bool false)) [[i1, i2, i3, i4, l5, s6, l7, l8]]))
  (br (((i1 : Int) == 3))
  (br ((((List.length l5 : Int) : Int) == 0))
  (∃ b32 : Bool, CallN Tryz.prog 43 [s6, (.con (.bool true))] [[i1, i2, i3, i4, l5, s6, l7, l8]] b32
  (br (b32)
  (Q (.con (.bool (decide (((List.length l7 : Int) : Int) ≤ 6)))) [[i1, i2, i3, i4, l5, s6, l7, l8]])
  (Q (.con (.bool false)) [[i1, i2, i3, i4, l5, s6, l7, l8]])))
  (Q (.con (.bool false)) [[i1, i2, i3, i4, l5, s6, l7, l8]]))
  (br (((i1 : Int) == 4))
  (br ((((List.length l5 : Int) : Int) == 0))
  (br ((ByteArray.toList s6 == ByteArray.toList ⟨#[]⟩))
  (br ((decide (((List.length l7 : Int) : Int) ≥ 2)))
  (Q (.con (.bool (decide (((List.length l7 : Int) : Int) ≤ 6)))) [[i1, i2, i3, i4, l5, s6, l7, l8]])
  (Q (.con (.bool false)) [[i1, i2, i3, i4, l5, s6, l7, l8]]))
  (Q (.con (.bool false)) [[i1, i2, i3, i4, l5, s6, l7, l8]]))
  (Q (.con (.bool false)) [[i1, i2, i3, i4, l5, s6, l7, l8]]))
  (br (((i1 : Int) == 5))
  (br ((((List.length l5 : Int) : Int) == 0))
  (∃ b33 : Bool, CallN Tryz.prog 94 [s6] [[i1, i2, i3, i4, l5, s6, l7, l8]] b33
  (br (b33)
  (br ((decide (((List.length l7 : Int) : Int) ≥ 1)))
  (Q (.con (.bool (decide (((List.length l7 : Int) : Int) ≤ 6)))) [[i1, i2, i3, i4, l5, s6, l7, l8]])
  (Q (.con (.bool false)) [[i1, i2, i3, i4, l5, s6, l7, l8]]))
  (Q (.con (.bool false)) [[i1, i2, i3, i4, l5, s6, l7, l8]])))
  (Q (.con (.bool false)) [[i1, i2, i3, i4, l5, s6, l7, l8]]))
  (br (((i1 : Int) == 6))
  (br ((((List.length l5 : Int) : Int) == 0))
  (∃ b34 : Bool, CallN Tryz.prog 43 [s6, (.con (.bool false))] [[i1, i2, i3, i4, l5, s6, l7, l8]] b34
  (br (b34)
  (Q (.con (.bool (((List.length l7 : Int) : Int) == 2))) [[i1, i2, i3, i4, l5, s6, l7, l8]])
  (Q (.con (.bool false)) [[i1, i2, i3, i4, l5, s6, l7, l8]])))
  (Q (.con (.bool false)) [[i1, i2, i3, i4, l5, s6, l7, l8]]))
  (br (((i1 : Int) == 7))
  (br ((((List.length l5 : Int) : Int) == 0))
  (br ((ByteArray.toList s6 == ByteArray.toList ⟨#[]⟩))
  (Q (.con (.bool (((List.length l7 : Int) : Int) == 3))) [[i1, i2, i3, i4, l5, s6, l7, l8]])
  (Q (.con (.bool false)) [[i1, i2, i3, i4, l5, s6, l7, l8]]))
  (Q (.con (.bool false)) [[i1, i2, i3, i4, l5, s6, l7, l8]]))
  (br (((i1 : Int) == 8))
  (br ((((List.length l5 : Int) : Int) == 0))
  (br ((ByteArray.toList s6 == ByteArray.toList ⟨#[]⟩))
  (br ((((List.length l7 : Int) : Int) == 1))
  (br ((decide (((List.length l8 : Int) : Int) ≥ 1)))
  (Q (.con (.bool (decide (((List.length l8 : Int) : Int) ≤ 32)))) [[i1, i2, i3, i4, l5, s6, l7, l8]])
  (Q (.con (.bool false)) [[i1, i2, i3, i4, l5, s6, l7, l8]]))
  (Q (.con (.bool false)) [[i1, i2, i3, i4, l5, s6, l7, l8]]))
  (Q (.con (.bool false)) [[i1, i2, i3, i4, l5, s6, l7, l8]]))
  (Q (.con (.bool false)) [[i1, i2, i3, i4, l5, s6, l7, l8]]))
  (br (((i1 : Int) == 9))
  (br ((ByteArray.toList s6 == ByteArray.toList ⟨#[]⟩))
  (br ((decide ((i4 : Int) ≥ 0)))
  (br ((decide ((i4 : Int) < 12)))
  (∃ i35 : Int, CallN Tryz.prog 170 [i4] [[i1, i2, i3, i4, l5, s6, l7, l8]] i35
  (Q (.con (.bool (((List.length l7 : Int) : Int) == i35))) [[i1, i2, i3, i4, l5, s6, l7, l8]]))
  (Q (.con (.bool false)) [[i1, i2, i3, i4, l5, s6, l7, l8]]))
  (Q (.con (.bool false)) [[i1, i2, i3, i4, l5, s6, l7, l8]]))
  (Q (.con (.bool false)) [[i1, i2, i3, i4, l5, s6, l7, l8]]))
  (br (((i1 : Int) == 10))
  (br ((decide ((i4 : Int) ≥ 0)))
  (br ((decide ((i4 : Int) ≤ 1000)))
  (∃ b36 : Bool, CallN Tryz.prog 43 [s6, (.con (.bool false))] [[i1, i2, i3, i4, l5, s6, l7, l8]] b36
  (br (b36)
  (Q (.con (.bool (((List.length l7 : Int) : Int) == 2))) [[i1, i2, i3, i4, l5, s6, l7, l8]])
  (Q (.con (.bool false)) [[i1, i2, i3, i4, l5, s6, l7, l8]])))
  (Q (.con (.bool false)) [[i1, i2, i3, i4, l5, s6, l7, l8]]))
  (Q (.con (.bool false)) [[i1, i2, i3, i4, l5, s6, l7, l8]]))
  (Q (.con (.bool false)) [[i1, i2, i3, i4, l5, s6, l7, l8]]))))))))))))))
  (br (((i1 : Int) != 8))
  (br ((decide (((List.length l8 : Int) : Int) > 0)))
  (Q (.con (.bool false)) [[i1, i2, i3, i4, l5, s6, l7, l8]])
  (br (((i1 : Int) != 1))
  (br ((decide (((List.length l5 : Int) : Int) > 0)))
  (Q (.con (.bool false)) [[i1, i2, i3, i4, l5, s6, l7, l8]])
  (br (((i1 : Int) == 0))
  (br ((ByteArray.toList s6 == ByteArray.toList ⟨#[]⟩))
  (br ((((List.length l7 : Int) : Int) == 0))
  (∃ b37 : Bool, CallN Tryz.prog 109 [i4] [[i1, i2, i3, i4, l5, s6, l7, l8]] b37
  (Q b37 [[i1, i2, i3, i4, l5, s6, l7, l8]]))
  (Q (.con (.bool false)) [[i1, i2, i3, i4, l5, s6, l7, l8]]))
  (Q (.con (.bool false)) [[i1, i2, i3, i4, l5, s6, l7, l8]]))
  (br (((i1 : Int) == 1))
  (br ((ByteArray.toList s6 == ByteArray.toList ⟨#[]⟩))
  (br ((((List.length l7 : Int) : Int) == 0))
  (br (((i4 : Int) == 0))
  (Q (.con (.bool (decide (((List.length l5 : Int) : Int) ≤ 64)))) [[i1, i2, i3, i4, l5, s6, l7, l8]])
  (Q (.con (.bool false)) [[i1, i2, i3, i4, l5, s6, l7, l8]]))
  (Q (.con (.bool false)) [[i1, i2, i3, i4, l5, s6, l7, l8]]))
  (Q (.con (.bool false)) [[i1, i2, i3, i4, l5, s6, l7, l8]]))
  (br (((i1 : Int) == 2))
  (Q (.con (.bool false)) [[i1, i2, i3, i4, l5, s6, l7, l8]])
  (br (((i1 : Int) == 3))
  (Q (.con (.bool false)) [[i1, i2, i3, i4, l5, s6, l7, l8]])
  (br (((i1 : Int) == 4))
  (Q (.con (.bool false)) [[i1, i2, i3, i4, l5, s6, l7, l8]])
  (br (((i1 : Int) == 5))
  (Q (.con (.bool false)) [[i1, i2, i3, i4, l5, s6, l7, l8]])
  (br (((i1 : Int) == 6))
  (Q (.con (.bool false)) [[i1, i2, i3, i4, l5, s6, l7, l8]])
  (br (((i1 : Int) == 7))
  (Q (.con (.bool false)) [[i1, i2, i3, i4, l5, s6, l7, l8]])
  (br (((i1 : Int) == 8))
  (Q (.con (.bool false)) [[i1, i2, i3, i4, l5, s6, l7, l8]])
  (br (((i1 : Int) == 9))
  (br ((ByteArray.toList s6 == ByteArray.toList ⟨#[]⟩))
  (br ((decide ((i4 : Int) ≥ 0)))
  (br ((decide ((i4 : Int) < 12)))
  (∃ i38 : Int, CallN Tryz.prog 170 [i4] [[i1, i2, i3, i4, l5, s6, l7, l8]] i38
  (Q (.con (.bool (((List.length l7 : Int) : Int) == i38))) [[i1, i2, i3, i4, l5, s6, l7, l8]]))
  (Q (.con (.bool false)) [[i1, i2, i3, i4, l5, s6, l7, l8]]))
  (Q (.con (.bool false)) [[i1, i2, i3, i4, l5, s6, l7, l8]]))
  (Q (.con (.bool false)) [[i1, i2, i3, i4, l5, s6, l7, l8]]))
  (br (((i1 : Int) == 10))
  (br ((decide ((i4 : Int) ≥ 0)))
  (br ((decide ((i4 : Int) ≤ 1000)))
  (∃ b39 : Bool, CallN Tryz.prog 43 [s6, (.con (.bool false))] [[i1, i2, i3, i4, l5, s6, l7, l8]] b39
  (br (b39)
  (Q (.con (.bool (((List.length l7 : Int) : Int) == 2))) [[i1, i2, i3, i4, l5, s6, l7, l8]])
  (Q (.con (.bool false)) [[i1, i2, i3, i4, l5, s6, l7, l8]])))
  (Q (.con (.bool false)) [[i1, i2, i3, i4, l5, s6, l7, l8]]))
  (Q (.con (.bool false)) [[i1, i2, i3, i4, l5, s6, l7, l8]]))
  (Q (.con (.bool false)) [[i1, i2, i3, i4, l5, s6, l7, l8]])))))))))))))
  (br (((i1 : Int) == 0))
  (br ((ByteArray.toList s6 == ByteArray.toList ⟨#[]⟩))
  (br ((((List.length l7 : Int) : Int) == 0))
  (∃ b40 : Bool, CallN Tryz.prog 109 [i4] [[i1, i2, i3, i4, l5, s6, l7, l8]] b40
  (Q b40 [[i1, i2, i3, i4, l5, s6, l7, l8]]))
  (Q (.con (.bool false)) [[i1, i2, i3, i4, l5, s6, l7, l8]]))
  (Q (.con (.bool false)) [[i1, i2, i3, i4, l5, s6, l7, l8]]))
  (br (((i1 : Int) == 1))
  (br ((ByteArray.toList s6 == ByteArray.toList ⟨#[]⟩))
  (br ((((List.length l7 : Int) : Int) == 0))
  (br (((i4 : Int) == 0))
  (Q (.con (.bool (decide (((List.length l5 : Int) : Int) ≤ 64)))) [[i1, i2, i3, i4, l5, s6, l7, l8]])
  (Q (.con (.bool false)) [[i1, i2, i3, i4, l5, s6, l7, l8]]))
  (Q (.con (.bool false)) [[i1, i2, i3, i4, l5, s6, l7, l8]]))
  (Q (.con (.bool false)) [[i1, i2, i3, i4, l5, s6, l7, l8]]))
  (br (((i1 : Int) == 2))
  (Q (.con (.bool false)) [[i1, i2, i3, i4, l5, s6, l7, l8]])
  (br (((i1 : Int) == 3))
  (Q (.con (.bool false)) [[i1, i2, i3, i4, l5, s6, l7, l8]])
  (br (((i1 : Int) == 4))
  (Q (.con (.bool false)) [[i1, i2, i3, i4, l5, s6, l7, l8]])
  (br (((i1 : Int) == 5))
  (Q (.con (.bool false)) [[i1, i2, i3, i4, l5, s6, l7, l8]])
  (br (((i1 : Int) == 6))
  (Q (.con (.bool false)) [[i1, i2, i3, i4, l5, s6, l7, l8]])
  (br (((i1 : Int) == 7))
  (Q (.con (.bool false)) [[i1, i2, i3, i4, l5, s6, l7, l8]])
  (br (((i1 : Int) == 8))
  (Q (.con (.bool false)) [[i1, i2, i3, i4, l5, s6, l7, l8]])
  (br (((i1 : Int) == 9))
  (br ((ByteArray.toList s6 == ByteArray.toList ⟨#[]⟩))
  (br ((decide ((i4 : Int) ≥ 0)))
  (br ((decide ((i4 : Int) < 12)))
  (∃ i41 : Int, CallN Tryz.prog 170 [i4] [[i1, i2, i3, i4, l5, s6, l7, l8]] i41
  (Q (.con (.bool (((List.length l7 : Int) : Int) == i41))) [[i1, i2, i3, i4, l5, s6, l7, l8]]))
  (Q (.con (.bool false)) [[i1, i2, i3, i4, l5, s6, l7, l8]]))
  (Q (.con (.bool false)) [[i1, i2, i3, i4, l5, s6, l7, l8]]))
  (Q (.con (.bool false)) [[i1, i2, i3, i4, l5, s6, l7, l8]]))
  (br (((i1 : Int) == 10))
  (br ((decide ((i4 : Int) ≥ 0)))
  (br ((decide ((i4 : Int) ≤ 1000)))
  (∃ b42 : Bool, CallN Tryz.prog 43 [s6, (.con (.bool false))] [[i1, i2, i3, i4, l5, s6, l7, l8]] b42
  (br (b42)
  (Q (.con (.bool (((List.length l7 : Int) : Int) == 2))) [[i1, i2, i3, i4, l5, s6, l7, l8]])
  (Q (.con (.bool false)) [[i1, i2, i3, i4, l5, s6, l7, l8]])))
  (Q (.con (.bool false)) [[i1, i2, i3, i4, l5, s6, l7, l8]]))
  (Q (.con (.bool false)) [[i1, i2, i3, i4, l5, s6, l7, l8]]))
  (Q (.con (.bool false)) [[i1, i2, i3, i4, l5, s6, l7, l8]]))))))))))))))
  (br (((i1 : Int) != 1))
  (br ((decide (((List.length l5 : Int) : Int) > 0)))
  (Q (.con (.bool false)) [[i1, i2, i3, i4, l5, s6, l7, l8]])
  (br (((i1 : Int) == 0))
  (br ((ByteArray.toList s6 == ByteArray.toList ⟨#[]⟩))
  (br ((((List.length l7 : Int) : Int) == 0))
  (∃ b43 : Bool, CallN Tryz.prog 109 [i4] [[i1, i2, i3, i4, l5, s6, l7, l8]] b43
  (Q b43 [[i1, i2, i3, i4, l5, s6, l7, l8]]))
  (Q (.con (.bool false)) [[i1, i2, i3, i4, l5, s6, l7, l8]]))
  (Q (.con (.bool false)) [[i1, i2, i3, i4, l5, s6, l7, l8]]))
  (br (((i1 : Int) == 1))
  (br ((ByteArray.toList s6 == ByteArray.toList ⟨#[]⟩))
  (br ((((List.length l7 : Int) : Int) == 0))
  (br (((i4 : Int) == 0))
  (Q (.con (.bool (decide (((List.length l5 : Int) : Int) ≤ 64)))) [[i1, i2, i3, i4, l5, s6, l7, l8]])
  (Q (.con (.bool false)) [[i1, i2, i3, i4, l5, s6, l7, l8]]))
  (Q (.con (.bool false)) [[i1, i2, i3, i4, l5, s6, l7, l8]]))
  (Q (.con (.bool false)) [[i1, i2, i3, i4, l5, s6, l7, l8]]))
  (br (((i1 : Int) == 2))
  (Q (.con (.bool false)) [[i1, i2, i3, i4, l5, s6, l7, l8]])
  (br (((i1 : Int) == 3))
  (Q (.con (.bool false)) [[i1, i2, i3, i4, l5, s6, l7, l8]])
  (br (((i1 : Int) == 4))
  (Q (.con (.bool false)) [[i1, i2, i3, i4, l5, s6, l7, l8]])
  (br (((i1 : Int) == 5))
  (Q (.con (.bool false)) [[i1, i2, i3, i4, l5, s6, l7, l8]])
  (br (((i1 : Int) == 6))
  (Q (.con (.bool false)) [[i1, i2, i3, i4, l5, s6, l7, l8]])
  (br (((i1 : Int) == 7))
  (Q (.con (.bool false)) [[i1, i2, i3, i4, l5, s6, l7, l8]])
  (br (((i1 : Int) == 8))
  (Q (.con (.bool false)) [[i1, i2, i3, i4, l5, s6, l7, l8]])
  (br (((i1 : Int) == 9))
  (br ((ByteArray.toList s6 == ByteArray.toList ⟨#[]⟩))
  (br ((decide ((i4 : Int) ≥ 0)))
  (br ((decide ((i4 : Int) < 12)))
  (∃ i44 : Int, CallN Tryz.prog 170 [i4] [[i1, i2, i3, i4, l5, s6, l7, l8]] i44
  (Q (.con (.bool (((List.length l7 : Int) : Int) == i44))) [[i1, i2, i3, i4, l5, s6, l7, l8]]))
  (Q (.con (.bool false)) [[i1, i2, i3, i4, l5, s6, l7, l8]]))
  (Q (.con (.bool false)) [[i1, i2, i3, i4, l5, s6, l7, l8]]))
  (Q (.con (.bool false)) [[i1, i2, i3, i4, l5, s6, l7, l8]]))
  (br (((i1 : Int) == 10))
  (br ((decide ((i4 : Int) ≥ 0)))
  (br ((decide ((i4 : Int) ≤ 1000)))
  (∃ b45 : Bool, CallN Tryz.prog 43 [s6, (.con (.bool false))] [[i1, i2, i3, i4, l5, s6, l7, l8]] b45
  (br (b45)
  (Q (.con (.bool (((List.length l7 : Int) : Int) == 2))) [[i1, i2, i3, i4, l5, s6, l7, l8]])
  (Q (.con (.bool false)) [[i1, i2, i3, i4, l5, s6, l7, l8]])))
  (Q (.con (.bool false)) [[i1, i2, i3, i4, l5, s6, l7, l8]]))
  (Q (.con (.bool false)) [[i1, i2, i3, i4, l5, s6, l7, l8]]))
  (Q (.con (.bool false)) [[i1, i2, i3, i4, l5, s6, l7, l8]])))))))))))))
  (br (((i1 : Int) == 0))
  (br ((ByteArray.toList s6 == ByteArray.toList ⟨#[]⟩))
  (br ((((List.length l7 : Int) : Int) == 0))
  (∃ b46 : Bool, CallN Tryz.prog 109 [i4] [[i1, i2, i3, i4, l5, s6, l7, l8]] b46
  (Q b46 [[i1, i2, i3, i4, l5, s6, l7, l8]]))
  (Q (.con (.bool false)) [[i1, i2, i3, i4, l5, s6, l7, l8]]))
  (Q (.con (.bool false)) [[i1, i2, i3, i4, l5, s6, l7, l8]]))
  (br (((i1 : Int) == 1))
  (br ((ByteArray.toList s6 == ByteArray.toList ⟨#[]⟩))
  (br ((((List.length l7 : Int) : Int) == 0))
  (br (((i4 : Int) == 0))
  (Q (.con (.bool (decide (((List.length l5 : Int) : Int) ≤ 64)))) [[i1, i2, i3, i4, l5, s6, l7, l8]])
  (Q (.con (.bool false)) [[i1, i2, i3, i4, l5, s6, l7, l8]]))
  (Q (.con (.bool false)) [[i1, i2, i3, i4, l5, s6, l7, l8]]))
  (Q (.con (.bool false)) [[i1, i2, i3, i4, l5, s6, l7, l8]]))
  (br (((i1 : Int) == 2))
  (Q (.con (.bool false)) [[i1, i2, i3, i4, l5, s6, l7, l8]])
  (br (((i1 : Int) == 3))
  (Q (.con (.bool false)) [[i1, i2, i3, i4, l5, s6, l7, l8]])
  (br (((i1 : Int) == 4))
  (Q (.con (.bool false)) [[i1, i2, i3, i4, l5, s6, l7, l8]])
  (br (((i1 : Int) == 5))
  (Q (.con (.bool false)) [[i1, i2, i3, i4, l5, s6, l7, l8]])
  (br (((i1 : Int) == 6))
  (Q (.con (.bool false)) [[i1, i2, i3, i4, l5, s6, l7, l8]])
  (br (((i1 : Int) == 7))
  (Q (.con (.bool false)) [[i1, i2, i3, i4, l5, s6, l7, l8]])
  (br (((i1 : Int) == 8))
  (Q (.con (.bool false)) [[i1, i2, i3, i4, l5, s6, l7, l8]])
  (br (((i1 : Int) == 9))
  (br ((ByteArray.toList s6 == ByteArray.toList ⟨#[]⟩))
  (br ((decide ((i4 : Int) ≥ 0)))
  (br ((decide ((i4 : Int) < 12)))
  (∃ i47 : Int, CallN Tryz.prog 170 [i4] [[i1, i2, i3, i4, l5, s6, l7, l8]] i47
  (Q (.con (.bool (((List.length l7 : Int) : Int) == i47))) [[i1, i2, i3, i4, l5, s6, l7, l8]]))
  (Q (.con (.bool false)) [[i1, i2, i3, i4, l5, s6, l7, l8]]))
  (Q (.con (.bool false)) [[i1, i2, i3, i4, l5, s6, l7, l8]]))
  (Q (.con (.bool false)) [[i1, i2, i3, i4, l5, s6, l7, l8]]))
  (br (((i1 : Int) == 10))
  (br ((decide ((i4 : Int) ≥ 0)))
  (br ((decide ((i4 : Int) ≤ 1000)))
  (∃ b48 : Bool, CallN Tryz.prog 43 [s6, (.con (.bool false))] [[i1, i2, i3, i4, l5, s6, l7, l8]] b48
  (br (b48)
  (Q (.con (.bool (((List.length l7 : Int) : Int) == 2))) [[i1, i2, i3, i4, l5, s6, l7, l8]])
  (Q (.con (.bool false)) [[i1, i2, i3, i4, l5, s6, l7, l8]])))
  (Q (.con (.bool false)) [[i1, i2, i3, i4, l5, s6, l7, l8]]))
  (Q (.con (.bool false)) [[i1, i2, i3, i4, l5, s6, l7, l8]]))
  (Q (.con (.bool false)) [[i1, i2, i3, i4, l5, s6, l7, l8]]))))))))))))))
theorem a105 (i1 i2 i3 i4 : Int) (l5 : List (List PV)) (s6 : ByteArray) (l7 l8 : List (List PV)) (Q : PV → Heap → Prop) (h : p105 i1 i2 i3 i4 l5 s6 l7 l8 Q) : ACalls Tryz.prog 105 [(.agg [i1, i2, i3, i4, l5, s6, l7, l8])] [] Q := by
  have hb : Option.some (bodyOf Tryz.f105) = Tryz.f105.body := by kernel_rfl
  exact acalls_eq (S := S) (L := loops105) mixed tok Tryz.func105 hb.symm (by kernel_rfl) h
end Go.Proofs.YtcmnjodjebcapaaGreat.Deep

namespace Go.Proofs.YtcmnjodjebcapaaGreat.Deep
open Go.RowKit
set_option linter.unusedVariables false
set_option linter.unusedSimpArgs false
theorem none_data (s : ByteArray) : (ByteArray.toList s == ByteArray.toList ⟨#[]⟩) = noneB s := by
  rw [Lib.toList_data, Lib.toList_data]; rfl
theorem len0 (n : Nat) : (((n : Int)) == 0) = decide (n = 0) := by
  rw [Bool.eq_iff_iff]; simp
theorem fitTy_pos' {D : Int} (h : 0 < D) (k : Int) (n : ByteArray) (ps : List Ty) : fitTy D.toNat (.mk k n ps) = ((if k = 0 ∨ k = 1 then noneB n && decide (ps.length = 0) else if k = 2 then dataB n && decide (ps.length = 0) else if k = 3 then noneB n && inB 2 6 ps.length else false) && ps.all (fitTy (D.toNat - 1))) := by
  obtain ⟨d, hd⟩ : ∃ d, D.toNat = d + 1 := ⟨D.toNat - 1, by omega⟩
  rw [hd, fitTy]; rfl
theorem all_zero {α : Type} (f : α → Bool) (l : List α) : (decide (l.length = 0) && l.all f) = decide (l.length = 0) := by
  cases l <;> simp
theorem smallTys_get : ∀ (ps : List Ty), smallTys ps → ∀ i (h : i < ps.length), smallTy ps[i]
  | t :: ts, hs, 0, _ => by unfold smallTys at hs; exact hs.1
  | t :: ts, hs, i + 1, h => by unfold smallTys at hs; simpa using smallTys_get ts hs.2 i (by simpa using h)
theorem all_take {α : Type} (f : α → Bool) (l : List α) (j : Nat) (h : j < l.length) : (l.take (j + 1)).all f = ((l.take j).all f && f l[j]) := by
  rw [List.take_succ_eq_append_getElem h, List.all_append]; simp
theorem all_no {α : Type} (f : α → Bool) (l : List α) (j : Nat) (h : j < l.length) (hf : f l[j] = false) : l.all f = false := by
  rw [List.all_eq_false]; exact ⟨l[j], List.getElem_mem h, by simpa using hf⟩
theorem fit_ty (t : Ty) : smallTy t → ∀ D : Int, 0 ≤ D → D ≤ 64 → PCalls Tryz.prog 50 [.agg (tyP t), .con (.int .i64 D)] (fun r => r = .con (.bool (fitTy D.toNat t))) := by
  induction t using Ty.ind with
  | h k n ps ih =>
  intro hs D h0 h1
  unfold smallTy at hs
  obtain ⟨hn, hlen, hss⟩ := hs
  refine a50 _ _ _ _ _ ?_
  unfold p50
  rw [none_data, tyPs_len]
  refine br_i (fun hd => ?_) (fun hd => ?_)
  · have hd : D < 1 := by simpa using hd
    exact ⟨by rw [show D.toNat = 0 by omega, fitTy], rfl⟩
  have hd : 0 < D := by have : ¬ D < 1 := by simpa using hd
                        omega
  rw [fitTy_pos' hd]
  refine br_i (fun hk => ?_) (fun hk0 => ?_)
  · obtain rfl : k = 0 := by simpa using hk
    refine br_i (fun hx => ⟨?_, rfl⟩) (fun hx => ⟨?_, rfl⟩)
    · rw [hx, len0]; simp only [true_or, if_true, Bool.true_and, all_zero]
    · rw [hx]; simp
  refine br_i (fun hk => ?_) (fun hk1 => ?_)
  · obtain rfl : k = 1 := by simpa using hk
    refine br_i (fun hx => ⟨?_, rfl⟩) (fun hx => ⟨?_, rfl⟩)
    · rw [hx, len0]; simp only [or_true, if_true, Bool.true_and, all_zero]
    · rw [hx]; simp
  refine br_i (fun hk => ?_) (fun hk2 => ?_)
  · obtain rfl : k = 2 := by simpa using hk
    refine ⟨_, call_p (enters_of Tryz.func93 (by kernel_rfl) rfl) (rsmall_p n hn) rfl ?_⟩
    refine br_i (fun hx => ⟨?_, rfl⟩) (fun hx => ⟨?_, rfl⟩)
    · rw [hx, len0, if_neg (by decide), if_pos rfl, Bool.true_and, all_zero]
    · rw [hx]; simp
  have hk01 : ¬ (k = 0 ∨ k = 1) := by simp at hk0 hk1; omega
  have hk2' : k ≠ 2 := by simpa using hk2
  rw [if_neg hk01, if_neg hk2']
  refine br_i (fun hk => ?_) (fun hk3 => ?_)
  · rw [if_pos (by simpa using hk)]
    refine br_i (fun hx => ⟨?_, rfl⟩) (fun hx => ?_)
    · have : noneB n = false := by simpa using hx
      rw [this]; rfl
    have hx : noneB n = true := by simpa using hx
    rw [hx]
    refine br_i (fun hx => ⟨?_, rfl⟩) (fun hx2 => ?_)
    · have : (ps.length : Int) < 2 := by simpa using hx
      have e : inB 2 6 ps.length = false := by unfold inB; simp; omega
      rw [e]; rfl
    refine br_i (fun hx => ⟨?_, rfl⟩) (fun hx6 => ?_)
    · have : (ps.length : Int) > 6 := by simpa using hx
      have e : inB 2 6 ps.length = false := by unfold inB; simp; omega
      rw [e]; rfl
    have e : inB 2 6 ps.length = true := by unfold inB; simp at hx2 hx6 ⊢; omega
    rw [e]
    simp only [Bool.true_and]
    refine ⟨fun c v => ∃ j : Nat, j ≤ ps.length ∧ c = ps.length - j ∧ v.1 = (j : Int) ∧ (ps.take j).all (fitTy (D.toNat - 1)) = true, ⟨_, 0, Nat.zero_le _, rfl, rfl, by simp⟩, ?_⟩
    rintro c ⟨i, u⟩ ⟨j, hj, rfl, hi, hall⟩
    dsimp only at hi ⊢
    subst hi
    refine br_i (fun hlt => ?_) (fun hge => ?_)
    · have hlt : j < ps.length := by simpa using hlt
      have hx := tyPs_get ps j hlt
      have hi := ih j hlt (smallTys_get ps hss j hlt) (D - 1) (by omega) (by omega)
      rw [show (D - 1).toNat = D.toNat - 1 by omega] at hi
      have ht := all_take (fitTy (D.toNat - 1)) ps j hlt
      have hno := all_no (fitTy (D.toNat - 1)) ps j hlt
      obtain ⟨k', n', ps', hp⟩ : ∃ k' n' ps', ps[j] = .mk k' n' ps' := by cases ps[j]; exact ⟨_, _, _, rfl⟩
      rw [hp] at hx hi ht hno
      refine ⟨_, _, _, ⟨by omega, by rw [Int.toNat_natCast]; exact hx, ?_⟩⟩
      rw [wrap_id (n := D - 1) (by omega) (by omega)]
      refine ⟨_, call_p (enters_of Tryz.func50 (by kernel_rfl) rfl) hi rfl ?_⟩
      refine br_i (fun hb => ⟨?_, rfl⟩) (fun hb => ⟨⟨by trivial, by trivial, trivial⟩, by trivial, ps.length - (j + 1), by omega, j + 1, by omega, by trivial, ?_, ?_⟩)
      · rw [hno (by simpa using hb)]
      · rw [wrap_id (by omega) (by omega)]; simp
      · have hb : fitTy (D.toNat - 1) (.mk k' n' ps') = true := by simpa using hb
        rw [ht, hall, hb]; rfl
    · have hge : ¬ j < ps.length := by simpa using hge
      rw [List.take_of_length_le (by omega)] at hall
      exact ⟨by rw [hall], rfl⟩
  · rw [if_neg (by simpa using hk3)]
    exact ⟨rfl, rfl⟩
theorem fit_tyF (t : Ty) (hs : smallTy t) : PCalls Tryz.prog 19 [.agg (tyP t)] (fun r => r = .con (.bool (fitTy 64 t))) := by
  have h := fit_ty t hs 64 (by omega) (by omega)
  obtain ⟨k', n', ps', hp⟩ : ∃ k' n' ps', t = .mk k' n' ps' := by cases t; exact ⟨_, _, _, rfl⟩
  subst hp
  refine a19 _ _ _ _ ?_
  unfold p19
  exact ⟨_, call_p (enters_of Tryz.func50 (by kernel_rfl) rfl) h rfl ⟨rfl, rfl⟩⟩
theorem fitPt_pos' {D : Int} (h : 0 < D) (k li co : Int) (n : ByteArray) (m : Int) (ks : List Pt) : fitPt D.toNat (.mk k li co n m ks) = (shapePt k n m ks.length && ks.all (fitPt (D.toNat - 1))) := by
  obtain ⟨d, hd⟩ : ∃ d, D.toNat = d + 1 := ⟨D.toNat - 1, by omega⟩
  rw [hd, fitPt]; rfl
theorem shapePt_more (k : Int) (n : ByteArray) (m : Int) (l : Nat) (h : 6 < l) : shapePt k n m l = false := by
  unfold shapePt inB
  have e1 : decide (l = 0) = false := by simp; omega
  have e2 : decide ((l : Int) ≤ 6) = false := by simp; omega
  rw [e1, e2]; simp
theorem smallPts_get : ∀ (ps : List Pt), smallPts ps → ∀ i (h : i < ps.length), smallPt ps[i]
  | t :: ts, hs, 0, _ => by unfold smallPts at hs; exact hs.1
  | t :: ts, hs, i + 1, h => by unfold smallPts at hs; simpa using smallPts_get ts hs.2 i (by simpa using h)
theorem fit_pt (t : Pt) : smallPt t → ∀ D : Int, 0 ≤ D → D ≤ 64 → PCalls Tryz.prog 48 [.agg (ptP t), .con (.int .i64 D)] (fun r => r = .con (.bool (fitPt D.toNat t))) := by
  induction t using Pt.ind with
  | h k li co n m ks ih =>
  intro hs D h0 h1
  unfold smallPt at hs
  obtain ⟨hn, hlen, hss⟩ := hs
  refine a48 _ _ _ _ _ _ _ _ ?_
  unfold p48
  rw [none_data, ptPs_len, len0]
  refine br_i (fun hd => ?_) (fun hd => ?_)
  · have hd : D < 1 := by simpa using hd
    exact ⟨by rw [show D.toNat = 0 by omega, fitPt], rfl⟩
  have hd : 0 < D := by have : ¬ D < 1 := by simpa using hd
                        omega
  rw [fitPt_pos' hd]
  by_cases hbad : k ≠ 2 ∧ m ≠ 0
  · refine br_i (fun _ => br_i (fun _ => ?_) (fun hf => absurd hbad.2 (by simpa using hf))) (fun hf => absurd hbad.1 (by simpa using hf))
    have e : shapePt k n m ks.length = false := by
      unfold shapePt
      have e1 : decide (m = 0) = false := by simpa using hbad.2
      rw [e1, if_neg hbad.1]; simp
    exact ⟨by rw [e]; rfl, rfl⟩
  have hm : k ≠ 2 → m = 0 := fun h => Classical.byContradiction fun h2 => hbad ⟨h, h2⟩
  clear hbad
  refine br_i (fun hk2 => br_i (fun hf => absurd (hm (by simpa using hk2)) (by simpa using hf)) (fun _ => ?_)) (fun hk2 => ?_)
  all_goals
    refine ⟨fun c v => ∃ j : Nat, j ≤ ks.length ∧ c = ks.length - j ∧ v.1 = (j : Int) ∧ (ks.take j).all (fitPt (D.toNat - 1)) = true, ⟨_, 0, Nat.zero_le _, rfl, rfl, by simp⟩, ?_⟩
    rintro c ⟨i, u⟩ ⟨j, hj, rfl, hi, hall⟩
    dsimp only at hi ⊢
    subst hi
    by_cases hgo : j < ks.length ∧ j < 10
    · obtain ⟨hlt, h10⟩ := hgo
      have hx := ptPs_get ks j hlt
      have hi := ih j hlt (smallPts_get ks hss j hlt) (D - 1) (by omega) (by omega)
      rw [show (D - 1).toNat = D.toNat - 1 by omega] at hi
      have ht := all_take (fitPt (D.toNat - 1)) ks j hlt
      have hno := all_no (fitPt (D.toNat - 1)) ks j hlt
      obtain ⟨k', li', co', n', m', ps', hp⟩ : ∃ k' li' co' n' m' ps', ks[j] = .mk k' li' co' n' m' ps' := by cases ks[j]; exact ⟨_, _, _, _, _, _, rfl⟩
      rw [hp] at hx hi ht hno
      refine br_i (fun _ => br_i (fun _ => ?_) (fun hf => absurd h10 (by simp at hf; omega))) (fun hf => absurd hlt (by simpa using hf))
      refine ⟨_, _, _, _, _, _, ⟨by omega, by rw [Int.toNat_natCast]; exact hx, ?_⟩⟩
      rw [wrap_id (n := D - 1) (by omega) (by omega)]
      refine ⟨_, call_p (enters_of Tryz.func48 (by kernel_rfl) rfl) hi rfl ?_⟩
      refine br_i (fun hb => ⟨?_, rfl⟩) (fun hb => ⟨⟨by trivial, by trivial, trivial⟩, by trivial, ks.length - (j + 1), by omega, j + 1, by omega, by trivial, ?_, ?_⟩)
      · rw [hno (by simpa using hb), Bool.and_false]
      · rw [wrap_id (by omega) (by omega)]; simp
      · have hb : fitPt (D.toNat - 1) (.mk k' li' co' n' m' ps') = true := by simpa using hb
        rw [ht, hall, hb]; rfl
    have hT : (shapePt k n m ks.length && ks.all (fitPt (D.toNat - 1))) = shapePt k n m ks.length := by
      by_cases hlt : j < ks.length
      · rw [shapePt_more _ _ _ _ (by omega)]; rfl
      · rw [List.take_of_length_le (by omega)] at hall
        rw [hall, Bool.and_true]
    rw [hT]
    refine br_i (fun hlt => br_i (fun hc => absurd ⟨by simpa using hlt, by simp at hc; omega⟩ hgo) (fun hc => ?_)) (fun hge => ?_)
    all_goals
      refine br_i (fun hk => ?_) (fun hk0 => ?_)
      · have hk : k = 0 := by simpa using hk
        have e : shapePt k n m ks.length = (noneB n && decide (ks.length = 0)) := by rw [hm (by omega), hk]; simp [shapePt]
        rw [e]
        exact br_i (fun hx => ⟨by rw [hx]; rfl, rfl⟩) (fun hx => ⟨by rw [hx]; rfl, rfl⟩)
      refine br_i (fun hk => ?_) (fun hk1 => ?_)
      · have hk : k = 1 := by simpa using hk
        have e : shapePt k n m ks.length = (namedB n false && decide (ks.length = 0)) := by rw [hm (by omega), hk]; simp [shapePt]
        rw [e]
        refine ⟨_, call_p (enters_of Tryz.func43 (by kernel_rfl) rfl) (rnamed_p n false hn) rfl ?_⟩
        exact br_i (fun hx => ⟨by rw [hx]; rfl, rfl⟩) (fun hx => ⟨by rw [hx]; rfl, rfl⟩)
      refine br_i (fun hk => ?_) (fun hk2' => ?_)
      · have hk : k = 2 := by simpa using hk
        have e : shapePt k n m ks.length = (noneB n && (numB m && decide (ks.length = 0))) := by rw [hk]; simp [shapePt]
        rw [e]
        refine br_i (fun hx => br_i (fun hy => ?_) (fun hy => ⟨by rw [hx, hy]; simp, rfl⟩)) (fun hx => ⟨by rw [hx]; rfl, rfl⟩)
        exact ⟨_, call_p (enters_of Tryz.func109 (by kernel_rfl) rfl) (rnumber_p m) rfl ⟨by rw [hx, hy]; simp, rfl⟩⟩
      refine br_i (fun hk => ?_) (fun hk3 => ?_)
      · have hk : k = 3 := by simpa using hk
        have e : shapePt k n m ks.length = (namedB n true && decide ((ks.length : Int) ≤ 6)) := by rw [hm (by omega), hk]; simp [shapePt, inB]
        rw [e]
        refine ⟨_, call_p (enters_of Tryz.func43 (by kernel_rfl) rfl) (rnamed_p n true hn) rfl ?_⟩
        exact br_i (fun hx => ⟨by rw [hx]; rfl, rfl⟩) (fun hx => ⟨by rw [hx]; rfl, rfl⟩)
      refine br_i (fun hk => ?_) (fun hk4 => ?_)
      · have hk : k = 4 := by simpa using hk
        have e : shapePt k n m ks.length = (noneB n && (decide ((ks.length : Int) ≥ 2) && decide ((ks.length : Int) ≤ 6))) := by rw [hm (by omega), hk]; simp [shapePt, inB]
        rw [e]
        exact br_i (fun hx => br_i (fun hy => ⟨by rw [hx, hy]; rfl, rfl⟩) (fun hy => ⟨by rw [hx, hy]; rfl, rfl⟩)) (fun hx => ⟨by rw [hx]; rfl, rfl⟩)
      have e : shapePt k n m ks.length = false := by
        simp at hk0 hk1 hk2' hk3 hk4
        simp [shapePt, hk0, hk1, hk2', hk3, hk4]
      exact ⟨by rw [e], rfl⟩
theorem fit_ptF (t : Pt) (hs : smallPt t) : PCalls Tryz.prog 17 [.agg (ptP t)] (fun r => r = .con (.bool (fitPt 64 t))) := by
  have h := fit_pt t hs 64 (by omega) (by omega)
  obtain ⟨k', li', co', n', m', ps', hp⟩ : ∃ k' li' co' n' m' ps', t = .mk k' li' co' n' m' ps' := by cases t; exact ⟨_, _, _, _, _, _, rfl⟩
  subst hp
  refine a17 _ _ _ _ _ _ _ ?_
  unfold p17
  exact ⟨_, call_p (enters_of Tryz.func48 (by kernel_rfl) rfl) h rfl ⟨rfl, rfl⟩⟩
end Go.Proofs.YtcmnjodjebcapaaGreat.Deep

namespace Go.Proofs.YtcmnjodjebcapaaGreat.Deep
open Go.RowKit
set_option linter.unusedVariables false
set_option linter.unusedSimpArgs false
theorem len_pos (n : Nat) : (decide ((n : Int) > 0)) = !decide (n = 0) := by
  rw [Bool.eq_iff_iff]; simp; omega
theorem len1 (n : Nat) : (((n : Int)) == 1) = decide (n = 1) := by rw [Bool.eq_iff_iff]; simp; omega
theorem len2 (n : Nat) : (((n : Int)) == 2) = decide (n = 2) := by rw [Bool.eq_iff_iff]; simp; omega
theorem len3 (n : Nat) : (((n : Int)) == 3) = decide (n = 3) := by rw [Bool.eq_iff_iff]; simp; omega
set_option maxRecDepth 20000 in
set_option maxHeartbeats 4000000 in
theorem alone_p (k li co m : Int) (b : List UInt8) (n : ByteArray) (ks : List Ex) (ps : List Pt) (bs : List Ex) (hn : n.size ≤ 3000) (hpb : ps.length = bs.length) : PCalls Tryz.prog 105 [.agg (exP (.mk k li co m b n ks ps bs))] (fun r => r = .con (.bool (shapeEx k m b.length n ks.length bs.length))) := by
  refine a105 _ _ _ _ _ _ _ _ _ ?_
  unfold p105
  rw [none_data, exPs_len, arPs_len bs ps hpb, show (byP b).length = b.length by simp [byP]]
  have e43 := enters_of Tryz.func43 (by kernel_rfl) rfl
  have e94 := enters_of Tryz.func94 (by kernel_rfl) rfl
  have e109 := enters_of Tryz.func109 (by kernel_rfl) rfl
  have e170 := enters_of Tryz.func170 (by kernel_rfl) rfl
  have c0 := rnamed_p n false hn
  have c1 := rnamed_p n true hn
  have c2 := rcalled_p n hn
  have c3 := rnumber_p m
  have c4 := rargs_p m
  obtain ⟨N0, h0⟩ : ∃ x, namedB n false = x := ⟨_, rfl⟩
  obtain ⟨N1, h1⟩ : ∃ x, namedB n true = x := ⟨_, rfl⟩
  obtain ⟨N2, h2⟩ : ∃ x, funB n = x := ⟨_, rfl⟩
  obtain ⟨N3, h3⟩ : ∃ x, numB m = x := ⟨_, rfl⟩
  obtain ⟨N4, h4⟩ : ∃ x, argsOf m = x := ⟨_, rfl⟩
  obtain ⟨N5, h5⟩ : ∃ x, noneB n = x := ⟨_, rfl⟩
  rw [h0] at c0
  rw [h1] at c1
  rw [h2] at c2
  rw [h3] at c3
  rw [h4] at c4
  rw [h5]
  obtain ⟨V, hV⟩ : ∃ V, shapeEx k m b.length n ks.length bs.length = V := ⟨_, rfl⟩
  rw [hV]
  unfold shapeEx varB at hV
  rw [h0, h1, h2, h3, h4, h5] at hV
  clear h0 h1 h2 h3 h4 h5
  rw [show (ByteArray.toList n == ByteArray.toList ⟨#[115, 116, 97, 116, 101]⟩) = isOne n bState by rw [Lib.toList_data, Lib.toList_data]; rfl]
  rw [show decide ((ks.length : Int) = N4) = ((ks.length : Int) == N4) by rw [Bool.eq_iff_iff]; simp] at hV
  have e11 : inB 0 11 m = (decide (0 ≤ m) && decide (m < 12)) := by
    unfold inB
    congr 1
    rw [Bool.eq_iff_iff]; simp; omega
  rw [e11] at hV
  clear e11
  simp only [len_pos, len0, len1, len2, len3]
  by_cases hk0 : k = 0
  · subst hk0
    rw [if_pos rfl] at hV
    repeat' (first
      | (refine br_i (fun h => ?_) (fun h => ?_) <;> try exact absurd h (by decide))
      | exact ⟨by simp_all [inB], rfl⟩
      | refine ⟨_, call_p e43 c0 rfl ?_⟩
      | refine ⟨_, call_p e43 c1 rfl ?_⟩
      | refine ⟨_, call_p e94 c2 rfl ?_⟩
      | refine ⟨_, call_p e109 c3 rfl ?_⟩
      | refine ⟨_, call_p e170 c4 rfl ?_⟩)
  by_cases hk1 : k = 1
  · subst hk1
    rw [if_neg (by decide), if_pos rfl] at hV
    repeat' (first
      | (refine br_i (fun h => ?_) (fun h => ?_) <;> try exact absurd h (by decide))
      | exact ⟨by simp_all [inB], rfl⟩
      | refine ⟨_, call_p e43 c0 rfl ?_⟩
      | refine ⟨_, call_p e43 c1 rfl ?_⟩
      | refine ⟨_, call_p e94 c2 rfl ?_⟩
      | refine ⟨_, call_p e109 c3 rfl ?_⟩
      | refine ⟨_, call_p e170 c4 rfl ?_⟩)
  by_cases hk2 : k = 2
  · subst hk2
    rw [if_neg (by decide), if_neg (by decide), if_pos rfl] at hV
    repeat' (first
      | (refine br_i (fun h => ?_) (fun h => ?_) <;> try exact absurd h (by decide))
      | exact ⟨by simp_all [inB], rfl⟩
      | refine ⟨_, call_p e43 c0 rfl ?_⟩
      | refine ⟨_, call_p e43 c1 rfl ?_⟩
      | refine ⟨_, call_p e94 c2 rfl ?_⟩
      | refine ⟨_, call_p e109 c3 rfl ?_⟩
      | refine ⟨_, call_p e170 c4 rfl ?_⟩)
  by_cases hk3 : k = 3
  · subst hk3
    rw [if_neg (by decide), if_neg (by decide), if_neg (by decide), if_pos rfl] at hV
    repeat' (first
      | (refine br_i (fun h => ?_) (fun h => ?_) <;> try exact absurd h (by decide))
      | exact ⟨by simp_all [inB], rfl⟩
      | refine ⟨_, call_p e43 c0 rfl ?_⟩
      | refine ⟨_, call_p e43 c1 rfl ?_⟩
      | refine ⟨_, call_p e94 c2 rfl ?_⟩
      | refine ⟨_, call_p e109 c3 rfl ?_⟩
      | refine ⟨_, call_p e170 c4 rfl ?_⟩)
  by_cases hk4 : k = 4
  · subst hk4
    rw [if_neg (by decide), if_neg (by decide), if_neg (by decide), if_neg (by decide), if_pos rfl] at hV
    repeat' (first
      | (refine br_i (fun h => ?_) (fun h => ?_) <;> try exact absurd h (by decide))
      | exact ⟨by simp_all [inB], rfl⟩
      | refine ⟨_, call_p e43 c0 rfl ?_⟩
      | refine ⟨_, call_p e43 c1 rfl ?_⟩
      | refine ⟨_, call_p e94 c2 rfl ?_⟩
      | refine ⟨_, call_p e109 c3 rfl ?_⟩
      | refine ⟨_, call_p e170 c4 rfl ?_⟩)
  by_cases hk5 : k = 5
  · subst hk5
    rw [if_neg (by decide), if_neg (by decide), if_neg (by decide), if_neg (by decide), if_neg (by decide), if_pos rfl] at hV
    repeat' (first
      | (refine br_i (fun h => ?_) (fun h => ?_) <;> try exact absurd h (by decide))
      | exact ⟨by simp_all [inB], rfl⟩
      | refine ⟨_, call_p e43 c0 rfl ?_⟩
      | refine ⟨_, call_p e43 c1 rfl ?_⟩
      | refine ⟨_, call_p e94 c2 rfl ?_⟩
      | refine ⟨_, call_p e109 c3 rfl ?_⟩
      | refine ⟨_, call_p e170 c4 rfl ?_⟩)
  by_cases hk6 : k = 6
  · subst hk6
    rw [if_neg (by decide), if_neg (by decide), if_neg (by decide), if_neg (by decide), if_neg (by decide), if_neg (by decide), if_pos rfl] at hV
    repeat' (first
      | (refine br_i (fun h => ?_) (fun h => ?_) <;> try exact absurd h (by decide))
      | exact ⟨by simp_all [inB], rfl⟩
      | refine ⟨_, call_p e43 c0 rfl ?_⟩
      | refine ⟨_, call_p e43 c1 rfl ?_⟩
      | refine ⟨_, call_p e94 c2 rfl ?_⟩
      | refine ⟨_, call_p e109 c3 rfl ?_⟩
      | refine ⟨_, call_p e170 c4 rfl ?_⟩)
  by_cases hk7 : k = 7
  · subst hk7
    rw [if_neg (by decide), if_neg (by decide), if_neg (by decide), if_neg (by decide), if_neg (by decide), if_neg (by decide), if_neg (by decide), if_pos rfl] at hV
    repeat' (first
      | (refine br_i (fun h => ?_) (fun h => ?_) <;> try exact absurd h (by decide))
      | exact ⟨by simp_all [inB], rfl⟩
      | refine ⟨_, call_p e43 c0 rfl ?_⟩
      | refine ⟨_, call_p e43 c1 rfl ?_⟩
      | refine ⟨_, call_p e94 c2 rfl ?_⟩
      | refine ⟨_, call_p e109 c3 rfl ?_⟩
      | refine ⟨_, call_p e170 c4 rfl ?_⟩)
  by_cases hk8 : k = 8
  · subst hk8
    rw [if_neg (by decide), if_neg (by decide), if_neg (by decide), if_neg (by decide), if_neg (by decide), if_neg (by decide), if_neg (by decide), if_neg (by decide), if_pos rfl] at hV
    repeat' (first
      | (refine br_i (fun h => ?_) (fun h => ?_) <;> try exact absurd h (by decide))
      | exact ⟨by simp_all [inB], rfl⟩
      | refine ⟨_, call_p e43 c0 rfl ?_⟩
      | refine ⟨_, call_p e43 c1 rfl ?_⟩
      | refine ⟨_, call_p e94 c2 rfl ?_⟩
      | refine ⟨_, call_p e109 c3 rfl ?_⟩
      | refine ⟨_, call_p e170 c4 rfl ?_⟩)
  by_cases hk9 : k = 9
  · subst hk9
    rw [if_neg (by decide), if_neg (by decide), if_neg (by decide), if_neg (by decide), if_neg (by decide), if_neg (by decide), if_neg (by decide), if_neg (by decide), if_neg (by decide), if_pos rfl] at hV
    repeat' (first
      | (refine br_i (fun h => ?_) (fun h => ?_) <;> try exact absurd h (by decide))
      | exact ⟨by simp_all [inB], rfl⟩
      | refine ⟨_, call_p e43 c0 rfl ?_⟩
      | refine ⟨_, call_p e43 c1 rfl ?_⟩
      | refine ⟨_, call_p e94 c2 rfl ?_⟩
      | refine ⟨_, call_p e109 c3 rfl ?_⟩
      | refine ⟨_, call_p e170 c4 rfl ?_⟩)
  by_cases hk10 : k = 10
  · subst hk10
    rw [if_neg (by decide), if_neg (by decide), if_neg (by decide), if_neg (by decide), if_neg (by decide), if_neg (by decide), if_neg (by decide), if_neg (by decide), if_neg (by decide), if_neg (by decide), if_pos rfl] at hV
    repeat' (first
      | (refine br_i (fun h => ?_) (fun h => ?_) <;> try exact absurd h (by decide))
      | exact ⟨by simp_all [inB], rfl⟩
      | refine ⟨_, call_p e43 c0 rfl ?_⟩
      | refine ⟨_, call_p e43 c1 rfl ?_⟩
      | refine ⟨_, call_p e94 c2 rfl ?_⟩
      | refine ⟨_, call_p e109 c3 rfl ?_⟩
      | refine ⟨_, call_p e170 c4 rfl ?_⟩)
  rw [if_neg hk0, if_neg hk1, if_neg hk2, if_neg hk3, if_neg hk4, if_neg hk5, if_neg hk6, if_neg hk7, if_neg hk8, if_neg hk9, if_neg hk10] at hV
  have q0 : (k == 0) = false := by simpa using hk0
  have q1 : (k == 1) = false := by simpa using hk1
  have q2 : (k == 2) = false := by simpa using hk2
  have q3 : (k == 3) = false := by simpa using hk3
  have q4 : (k == 4) = false := by simpa using hk4
  have q5 : (k == 5) = false := by simpa using hk5
  have q6 : (k == 6) = false := by simpa using hk6
  have q7 : (k == 7) = false := by simpa using hk7
  have q8 : (k == 8) = false := by simpa using hk8
  have q9 : (k == 9) = false := by simpa using hk9
  have q10 : (k == 10) = false := by simpa using hk10
  have r8 : (k != 8) = true := by simpa using hk8
  have r1 : (k != 1) = true := by simpa using hk1
  simp only [r8, r1, q0, q1, q2, q3, q4, q5, q6, q7, q8, q9, q10]
  repeat' (first
    | (refine br_i (fun h => ?_) (fun h => ?_) <;> try exact absurd h (by decide))
    | exact ⟨by simp_all [inB], rfl⟩
    | refine ⟨_, call_p e43 c0 rfl ?_⟩
    | refine ⟨_, call_p e43 c1 rfl ?_⟩
    | refine ⟨_, call_p e94 c2 rfl ?_⟩
    | refine ⟨_, call_p e109 c3 rfl ?_⟩
    | refine ⟨_, call_p e170 c4 rfl ?_⟩)
theorem fitEx_pos' {D : Int} (h : 0 < D) (k li co m : Int) (b : List UInt8) (n : ByteArray) (ks : List Ex) (ps : List Pt) (bs : List Ex) : fitEx D.toNat (.mk k li co m b n ks ps bs) = (shapeEx k m b.length n ks.length bs.length && (ks.all (fitEx (D.toNat - 1)) && (ps.all (fitPt (D.toNat - 1)) && bs.all (fitEx (D.toNat - 1))))) := by
  obtain ⟨d, hd⟩ : ∃ d, D.toNat = d + 1 := ⟨D.toNat - 1, by omega⟩
  rw [hd, fitEx]; rfl
theorem smallExs_get : ∀ (ps : List Ex), smallExs ps → ∀ i (h : i < ps.length), smallEx ps[i]
  | t :: ts, hs, 0, _ => by unfold smallExs at hs; exact hs.1
  | t :: ts, hs, i + 1, h => by unfold smallExs at hs; simpa using smallExs_get ts hs.2 i (by simpa using h)
theorem fit_ex (t : Ex) : smallEx t → wfEx t → ∀ D : Int, 0 ≤ D → D ≤ 64 → PCalls Tryz.prog 46 [.agg (exP t), .con (.int .i64 D)] (fun r => r = .con (.bool (fitEx D.toNat t))) := by
  induction t using Ex.ind with
  | h k li co m b n ks ps bs ihk ihb =>
  intro hs hw D h0 h1
  unfold smallEx at hs
  unfold wfEx at hw
  obtain ⟨hpb, hwk, hwb⟩ := hw
  obtain ⟨hb3, hn, hlk, hlp, hlb, hsk, hsp, hsb⟩ := hs
  have hal := alone_p k li co m b n ks ps bs hn hpb
  refine a46 _ _ _ _ _ _ _ _ _ _ ?_
  unfold p46
  rw [exPs_len, arPs_len bs ps hpb]
  refine br_i (fun hd => ?_) (fun hd => ?_)
  · have hd : D < 1 := by simpa using hd
    exact ⟨by rw [show D.toNat = 0 by omega, fitEx], rfl⟩
  have hd : 0 < D := by have : ¬ D < 1 := by simpa using hd
                        omega
  rw [fitEx_pos' hd]
  refine ⟨_, call_p (enters_of Tryz.func105 (by kernel_rfl) rfl) hal rfl ?_⟩
  refine br_i (fun hx => ⟨?_, rfl⟩) (fun hx => ?_)
  · have hx : shapeEx k m b.length n ks.length bs.length = false := by simpa using hx
    rw [hx]; rfl
  have hx : shapeEx k m b.length n ks.length bs.length = true := by simpa using hx
  rw [hx, Bool.true_and]
  refine ⟨fun c v => ∃ j : Nat, j ≤ ks.length ∧ c = ks.length - j ∧ v.1 = (j : Int) ∧ (ks.take j).all (fitEx (D.toNat - 1)) = true, ⟨_, 0, Nat.zero_le _, rfl, rfl, by simp⟩, ?_⟩
  rintro c ⟨i, u⟩ ⟨j, hj, rfl, hi, hall⟩
  dsimp only at hi ⊢
  subst hi
  refine br_i (fun hlt => ?_) (fun hge => ?_)
  · have hlt : j < ks.length := by simpa using hlt
    have hx := exPs_get ks j hlt
    have hi := ihk j hlt (smallExs_get ks hsk j hlt) (wfExs_at ks hwk j hlt) (D - 1) (by omega) (by omega)
    rw [show (D - 1).toNat = D.toNat - 1 by omega] at hi
    have ht := all_take (fitEx (D.toNat - 1)) ks j hlt
    have hno := all_no (fitEx (D.toNat - 1)) ks j hlt
    obtain ⟨k', li', co', m', b', n', ks', ps', bs', hp⟩ : ∃ k' li' co' m' b' n' ks' ps' bs', ks[j] = .mk k' li' co' m' b' n' ks' ps' bs' := by cases ks[j]; exact ⟨_, _, _, _, _, _, _, _, _, rfl⟩
    rw [hp] at hx hi ht hno
    refine ⟨_, _, _, _, _, _, _, _, ⟨by omega, by rw [Int.toNat_natCast]; exact hx, ?_⟩⟩
    rw [wrap_id (n := D - 1) (by omega) (by omega)]
    refine ⟨_, call_p (enters_of Tryz.func46 (by kernel_rfl) rfl) hi rfl ?_⟩
    refine br_i (fun hb => ⟨?_, rfl⟩) (fun hb => ⟨⟨by trivial, by trivial, trivial⟩, by trivial, ks.length - (j + 1), by omega, j + 1, by omega, by trivial, ?_, ?_⟩)
    · rw [hno (by simpa using hb)]; rfl
    · rw [wrap_id (by omega) (by omega)]; simp
    · have hb : fitEx (D.toNat - 1) (.mk k' li' co' m' b' n' ks' ps' bs') = true := by simpa using hb
      rw [ht, hall, hb]; rfl
  have hge : ¬ j < ks.length := by simpa using hge
  rw [List.take_of_length_le (by omega)] at hall
  rw [hall, Bool.true_and]
  refine ⟨fun c v => ∃ j : Nat, j ≤ bs.length ∧ c = bs.length - j ∧ v.1 = (j : Int) ∧ (ps.take j).all (fitPt (D.toNat - 1)) = true ∧ (bs.take j).all (fitEx (D.toNat - 1)) = true, ⟨_, 0, Nat.zero_le _, rfl, rfl, by simp, by simp⟩, ?_⟩
  rintro c ⟨i, u⟩ ⟨j2, hj2, rfl, hi, hall1, hall2⟩
  dsimp only at hi ⊢
  subst hi
  refine br_i (fun hlt => ?_) (fun hge2 => ?_)
  · have hlt : j2 < bs.length := by simpa using hlt
    have hlt3 : j2 < ps.length := by omega
    have hx := arPs_get bs ps j2 hlt hlt3
    have hi := ihb j2 hlt (smallExs_get bs hsb j2 hlt) (wfExs_at bs hwb j2 hlt) (D - 1) (by omega) (by omega)
    have hi1 := fit_pt ps[j2] (smallPts_get ps hsp j2 hlt3) (D - 1) (by omega) (by omega)
    rw [show (D - 1).toNat = D.toNat - 1 by omega] at hi hi1
    have ht := all_take (fitEx (D.toNat - 1)) bs j2 hlt
    have hno := all_no (fitEx (D.toNat - 1)) bs j2 hlt
    have ht1 := all_take (fitPt (D.toNat - 1)) ps j2 hlt3
    have hno1 := all_no (fitPt (D.toNat - 1)) ps j2 hlt3
    obtain ⟨k', li', co', m', b', n', ks', ps', bs', hp⟩ : ∃ k' li' co' m' b' n' ks' ps' bs', bs[j2] = .mk k' li' co' m' b' n' ks' ps' bs' := by cases bs[j2]; exact ⟨_, _, _, _, _, _, _, _, _, rfl⟩
    obtain ⟨k2', li2', co2', n2', m2', ps2', hp2⟩ : ∃ k' li' co' n' m' ps', ps[j2] = .mk k' li' co' n' m' ps' := by cases ps[j2]; exact ⟨_, _, _, _, _, _, rfl⟩
    rw [hp, hp2] at hx
    rw [hp] at hi ht hno
    rw [hp2] at hi1 ht1 hno1
    refine ⟨_, _, _, _, _, _, _, _, _, _, _, _, _, _, ⟨by omega, by rw [Int.toNat_natCast]; exact hx, ?_⟩⟩
    rw [wrap_id (n := D - 1) (by omega) (by omega)]
    refine ⟨_, call_p (enters_of Tryz.func48 (by kernel_rfl) rfl) hi1 rfl ?_⟩
    refine br_i (fun hb => ⟨?_, rfl⟩) (fun hb1 => ?_)
    · rw [hno1 (by simpa using hb)]; rfl
    have hb1 : fitPt (D.toNat - 1) (.mk k2' li2' co2' n2' m2' ps2') = true := by simpa using hb1
    refine ⟨_, _, _, _, _, _, _, _, _, _, _, _, _, _, ⟨by omega, by rw [Int.toNat_natCast]; exact hx, ?_⟩⟩
    refine ⟨_, call_p (enters_of Tryz.func46 (by kernel_rfl) rfl) hi rfl ?_⟩
    refine br_i (fun hb => ⟨?_, rfl⟩) (fun hb => ⟨⟨by trivial, by trivial, trivial⟩, by trivial, bs.length - (j2 + 1), by omega, j2 + 1, by omega, by trivial, ?_, ?_, ?_⟩)
    · rw [hno (by simpa using hb), Bool.and_false]
    · rw [wrap_id (by omega) (by omega)]; simp
    · rw [ht1, hall1, hb1]; rfl
    · have hb : fitEx (D.toNat - 1) (.mk k' li' co' m' b' n' ks' ps' bs') = true := by simpa using hb
      rw [ht, hall2, hb]; rfl
  · have hge2 : ¬ j2 < bs.length := by simpa using hge2
    rw [List.take_of_length_le (by omega)] at hall1 hall2
    exact ⟨by rw [hall1, hall2]; rfl, rfl⟩
theorem fit_exF (t : Ex) (hs : smallEx t) (hw : wfEx t) : PCalls Tryz.prog 15 [.agg (exP t)] (fun r => r = .con (.bool (fitEx 64 t))) := by
  have h := fit_ex t hs hw 64 (by omega) (by omega)
  obtain ⟨k', li', co', m', b', n', ks', ps', bs', hp⟩ : ∃ k' li' co' m' b' n' ks' ps' bs', t = .mk k' li' co' m' b' n' ks' ps' bs' := by cases t; exact ⟨_, _, _, _, _, _, _, _, _, rfl⟩
  subst hp
  refine a15 _ _ _ _ _ _ _ _ _ ?_
  unfold p15
  exact ⟨_, call_p (enters_of Tryz.func46 (by kernel_rfl) rfl) h rfl ⟨rfl, rfl⟩⟩
end Go.Proofs.YtcmnjodjebcapaaGreat.Deep

namespace Go.Proofs.YtcmnjodjebcapaaGreat.Deep
open Go.RowKit
set_option linter.unusedVariables false
def loops13 (id : Nat) : Option (List Nat × List (Nat × Sh)) := match Nat.beq id 16 with | true => some ([1], [(5, .int .i64)]) | false => match Nat.beq id 11 with | true => some ([1], [(4, .int .i64)]) | false => match Nat.beq id 6 with | true => some ([1], [(3, .int .i64)]) | false => none
def p13 (l1 l2 : List (List PV)) (i3 i4 i5 : Int) (s6 : ByteArray) (l7 : List (List PV)) (i8 i9 i10 i11 i12 : Int) (l13 : List (List PV)) (s14 : ByteArray) (l15 l16 l17 : List (List PV)) (Q : PV → Heap → Prop) : Prop :=
br ((decide (((List.length l1 : Int) : Int) > 32)))
  (Q (.con (.bool false)) [[l1, l2, i3, i4, i5, s6, l7, i8, i9, i10, i11, i12, l13, s14, l15, l16, l17]])
  (br ((decide (((List.length l2 : Int) : Int) > 48)))
  (Q (.con (.bool false)) [[l1, l2, i3, i4, i5, s6, l7, i8, i9, i10, i11, i12, l13, s14, l15, l16, l17]])
  (br ((decide (((List.length l17 : Int) : Int) > 16)))
  (Q (.con (.bool false)) [[l1, l2, i3, i4, i5, s6, l7, i8, i9, i10, i11, i12, l13, s14, l15, l16, l17]])
  (br ((decide ((i3 : Int) < 1)))
  (Q (.con (.bool false)) [[l1, l2, i3, i4, i5, s6, l7, i8, i9, i10, i11, i12, l13, s14, l15, l16, l17]])
  (br ((decide ((i3 : Int) > 32)))
  (Q (.con (.bool false)) [[l1, l2, i3, i4, i5, s6, l7, i8, i9, i10, i11, i12, l13, s14, l15, l16, l17]])
  (br ((decide ((i4 : Int) < 0)))
  (Q (.con (.bool false)) [[l1, l2, i3, i4, i5, s6, l7, i8, i9, i10, i11, i12, l13, s14, l15, l16, l17]])
  (br ((decide ((i4 : Int) > 32)))
  (Q (.con (.bool false)) [[l1, l2, i3, i4, i5, s6, l7, i8, i9, i10, i11, i12, l13, s14, l15, l16, l17]])
  (∃ b18 : Bool, CallN Tryz.prog 19 [(.agg [i5, s6, l7])] [[l1, l2, i3, i4, i5, s6, l7, i8, i9, i10, i11, i12, l13, s14, l15, l16, l17]] b18
  (br ((!b18))
  (Q (.con (.bool false)) [[l1, l2, i3, i4, i5, s6, l7, i8, i9, i10, i11, i12, l13, s14, l15, l16, l17]])
  (br ((decide ((i8 : Int) < 0)))
  (Q (.con (.bool false)) [[l1, l2, i3, i4, i5, s6, l7, i8, i9, i10, i11, i12, l13, s14, l15, l16, l17]])
  (br ((decide ((i8 : Int) > 256)))
  (Q (.con (.bool false)) [[l1, l2, i3, i4, i5, s6, l7, i8, i9, i10, i11, i12, l13, s14, l15, l16, l17]])
  (∃ b19 : Bool, CallN Tryz.prog 15 [(.agg [i9, i10, i11, i12, l13, s14, l15, l16])] [[l1, l2, i3, i4, i5, s6, l7, i8, i9, i10, i11, i12, l13, s14, l15, l16, l17]] b19
  (br ((!b19))
  (Q (.con (.bool false)) [[l1, l2, i3, i4, i5, s6, l7, i8, i9, i10, i11, i12, l13, s14, l15, l16, l17]])
  (∃ I20 : Nat → ((Int) × Unit) → Prop, (∃ n, I20 n (0, ())) ∧ ∀ (n21 : Nat) (v22 : (Int) × Unit), I20 n21 v22 →
  (br ((decide ((v22.1 : Int) < (List.length l1 : Int))))
  (∃ i23 : Int, ∃ i24 : Int, ∃ s25 : ByteArray, ∃ l26 : List (List PV), IdxN l1 v22.1 [i23, i24, s25, l26]
  (∃ b27 : Bool, CallN Tryz.prog 41 [(.agg [i23, i24, s25, l26])] [[l1, l2, i3, i4, i5, s6, l7, i8, i9, i10, i11, i12, l13, s14, l15, l16, l17]] b27
  (br ((!b27))
  (Q (.con (.bool false)) [[l1, l2, i3, i4, i5, s6, l7, i8, i9, i10, i11, i12, l13, s14, l15, l16, l17]])
  ((@Eq PV (.ptr 0 0) (.ptr 0 0) ∧ True) ∧ @Eq Heap [[l1, l2, i3, i4, i5, s6, l7, i8, i9, i10, i11, i12, l13, s14, l15, l16, l17]] [[l1, l2, i3, i4, i5, s6, l7, i8, i9, i10, i11, i12, l13, s14, l15, l16, l17]] ∧ ∃ k28, k28 < n21 ∧ I20 k28 ((IntKind.wrap .i64 (v22.1 + 1)), ())))))
  (∃ I29 : Nat → ((Int) × Unit) → Prop, (∃ n, I29 n (0, ())) ∧ ∀ (n30 : Nat) (v31 : (Int) × Unit), I29 n30 v31 →
  (br ((decide ((v31.1 : Int) < (List.length l2 : Int))))
  (∃ i32 : Int, ∃ i33 : Int, ∃ s34 : ByteArray, ∃ l35 : List (List PV), ∃ i36 : Int, ∃ s37 : ByteArray, ∃ l38 : List (List PV), ∃ i39 : Int, ∃ i40 : Int, ∃ i41 : Int, ∃ i42 : Int, ∃ l43 : List (List PV), ∃ s44 : ByteArray, ∃ l45 : List (List PV), ∃ l46 : List (List PV), IdxN l2 v31.1 [i32, i33, s34, l35, i36, s37, l38, i39, i40, i41, i42, l43, s44, l45, l46]
  (∃ b47 : Bool, CallN Tryz.prog 42 [(.agg [i32, i33, s34, l35, i36, s37, l38, i39, i40, i41, i42, l43, s44, l45, l46])] [[l1, l2, i3, i4, i5, s6, l7, i8, i9, i10, i11, i12, l13, s14, l15, l16, l17]] b47
  (br ((!b47))
  (Q (.con (.bool false)) [[l1, l2, i3, i4, i5, s6, l7, i8, i9, i10, i11, i12, l13, s14, l15, l16, l17]])
  ((@Eq PV (.ptr 0 0) (.ptr 0 0) ∧ True) ∧ @Eq Heap [[l1, l2, i3, i4, i5, s6, l7, i8, i9, i10, i11, i12, l13, s14, l15, l16, l17]] [[l1, l2, i3, i4, i5, s6, l7, i8, i9, i10, i11, i12, l13, s14, l15, l16, l17]] ∧ ∃ k48, k48 < n30 ∧ I29 k48 ((IntKind.wrap .i64 (v31.1 + 1)), ())))))
  (∃ I49 : Nat → ((Int) × Unit) → Prop, (∃ n, I49 n (0, ())) ∧ ∀ (n50 : Nat) (v51 : (Int) × Unit), I49 n50 v51 →
  (br ((decide ((v51.1 : Int) < (List.length l17 : Int))))
  (∃ i52 : Int, ∃ i53 : Int, ∃ s54 : ByteArray, ∃ s55 : ByteArray, ∃ i56 : Int, ∃ s57 : ByteArray, ∃ l58 : List (List PV), ∃ i59 : Int, ∃ i60 : Int, ∃ i61 : Int, ∃ i62 : Int, ∃ i63 : Int, ∃ l64 : List (List PV), ∃ s65 : ByteArray, ∃ l66 : List (List PV), ∃ l67 : List (List PV), IdxN l17 v51.1 [i52, i53, s54, s55, i56, s57, l58, i59, i60, i61, i62, i63, l64, s65, l66, l67]
  (∃ b68 : Bool, CallN Tryz.prog 43 [s54, (.con (.bool false))] [[l1, l2, i3, i4, i5, s6, l7, i8, i9, i10, i11, i12, l13, s14, l15, l16, l17], [i52, i53, s54, s55, i56, s57, l58, i59, i60, i61, i62, i63, l64, s65, l66, l67]] b68
  (br ((!b68))
  (Q (.con (.bool false)) [[l1, l2, i3, i4, i5, s6, l7, i8, i9, i10, i11, i12, l13, s14, l15, l16, l17], [i52, i53, s54, s55, i56, s57, l58, i59, i60, i61, i62, i63, l64, s65, l66, l67]])
  (∃ b69 : Bool, CallN Tryz.prog 44 [(.agg [s55, i56, s57, l58])] [[l1, l2, i3, i4, i5, s6, l7, i8, i9, i10, i11, i12, l13, s14, l15, l16, l17], [i52, i53, s54, s55, i56, s57, l58, i59, i60, i61, i62, i63, l64, s65, l66, l67]] b69
  (br ((!b69))
  (Q (.con (.bool false)) [[l1, l2, i3, i4, i5, s6, l7, i8, i9, i10, i11, i12, l13, s14, l15, l16, l17], [i52, i53, s54, s55, i56, s57, l58, i59, i60, i61, i62, i63, l64, s65, l66, l67]])
  (br ((decide ((i59 : Int) < 0)))
  (Q (.con (.bool false)) [[l1, l2, i3, i4, i5, s6, l7, i8, i9, i10, i11, i12, l13, s14, l15, l16, l17], [i52, i53, s54, s55, i56, s57, l58, i59, i60, i61, i62, i63, l64, s65, l66, l67]])
  (br ((decide ((i59 : Int) > 64)))
  (Q (.con (.bool false)) [[l1, l2, i3, i4, i5, s6, l7, i8, i9, i10, i11, i12, l13, s14, l15, l16, l17], [i52, i53, s54, s55, i56, s57, l58, i59, i60, i61, i62, i63, l64, s65, l66, l67]])
  (∃ b70 : Bool, CallN Tryz.prog 15 [(.agg [i60, i61, i62, i63, l64, s65, l66, l67])] [[l1, l2, i3, i4, i5, s6, l7, i8, i9, i10, i11, i12, l13, s14, l15, l16, l17], [i52, i53, s54, s55, i56, s57, l58, i59, i60, i61, i62, i63, l64, s65, l66, l67]] b70
  (br ((!b70))
  (Q (.con (.bool false)) [[l1, l2, i3, i4, i5, s6, l7, i8, i9, i10, i11, i12, l13, s14, l15, l16, l17], [i52, i53, s54, s55, i56, s57, l58, i59, i60, i61, i62, i63, l64, s65, l66, l67]])
  ((@Eq PV (.ptr 0 0) (.ptr 0 0) ∧ True) ∧ @Eq Heap [[l1, l2, i3, i4, i5, s6, l7, i8, i9, i10, i11, i12, l13, s14, l15, l16, l17]] [[l1, l2, i3, i4, i5, s6, l7, i8, i9, i10, i11, i12, l13, s14, l15, l16, l17]] ∧ ∃ k71, k71 < n50 ∧ I49 k71 ((IntKind.wrap .i64 (v51.1 + 1)), ())))))))))))
  (Q (.con (.bool true)) [[l1, l2, i3, i4, i5, s6, l7, i8, i9, i10, i11, i12, l13, s14, l15, l16, l17]])))))))))))))))))))
theorem a13 (l1 l2 : List (List PV)) (i3 i4 i5 : Int) (s6 : ByteArray) (l7 : List (List PV)) (i8 i9 i10 i11 i12 : Int) (l13 : List (List PV)) (s14 : ByteArray) (l15 l16 l17 : List (List PV)) (Q : PV → Heap → Prop) (h : p13 l1 l2 i3 i4 i5 s6 l7 i8 i9 i10 i11 i12 l13 s14 l15 l16 l17 Q) : ACalls Tryz.prog 13 [(.agg [l1, l2, i3, i4, i5, s6, l7, i8, i9, i10, i11, i12, l13, s14, l15, l16, l17])] [] Q := by
  have hb : Option.some (bodyOf Tryz.f13) = Tryz.f13.body := by kernel_rfl
  exact acalls_eq (S := S) (L := loops13) mixed tok Tryz.func13 hb.symm (by kernel_rfl) h
def loops32 (id : Nat) : Option (List Nat × List (Nat × Sh)) := match Nat.beq id 20 with | true => some ([2], [(1, .int .i64), (10, .int .i64)]) | false => match Nat.beq id 16 with | true => some ([2, 7, 8], [(1, .int .i64), (9, .int .i64)]) | false => match Nat.beq id 11 with | true => some ([2], [(1, .int .i64), (7, .int .i64)]) | false => match Nat.beq id 7 with | true => some ([2, 5], [(1, .int .i64), (6, .int .i64)]) | false => match Nat.beq id 3 with | true => some ([2], [(1, .int .i64), (5, .int .i64)]) | false => none
def p32 (l1 l2 : List (List PV)) (i3 i4 i5 : Int) (s6 : ByteArray) (l7 : List (List PV)) (i8 i9 i10 i11 i12 : Int) (l13 : List (List PV)) (s14 : ByteArray) (l15 l16 l17 : List (List PV)) (i18 : Int) (Q : PV → Heap → Prop) : Prop :=
∃ i19 : Int, CallN Tryz.prog 10 [(.agg [i5, s6, l7]), i18] [] i19
  (∃ i20 : Int, CallN Tryz.prog 8 [(.agg [i9, i10, i11, i12, l13, s14, l15, l16]), i19] [] i20
  (∃ I21 : Nat → ((Int) × (Int) × Unit) → Prop, (∃ n, I21 n (i20, 0, ())) ∧ ∀ (n22 : Nat) (v23 : (Int) × (Int) × Unit), I21 n22 v23 →
  (br ((decide ((v23.2.1 : Int) < (List.length l1 : Int))))
  (br ((decide ((v23.1 : Int) ≥ 0)))
  (∃ i24 : Int, ∃ i25 : Int, ∃ s26 : ByteArray, ∃ l27 : List (List PV), IdxN l1 v23.2.1 [i24, i25, s26, l27]
  (∃ I28 : Nat → ((Int) × (Int) × Unit) → Prop, (∃ n, I28 n ((IntKind.wrap .i64 ((IntKind.wrap .i64 (v23.1 - 1)) - (minI (ByteArray.size s26 : Int) 1048576))), 0, ())) ∧ ∀ (n29 : Nat) (v30 : (Int) × (Int) × Unit), I28 n29 v30 →
  (∃ i31 : Int, ∃ i32 : Int, ∃ s33 : ByteArray, ∃ l34 : List (List PV), IdxN l1 v23.2.1 [i31, i32, s33, l34]
  (br ((decide ((v30.2.1 : Int) < (List.length l34 : Int))))
  (br ((decide ((v30.1 : Int) ≥ 0)))
  (∃ i35 : Int, ∃ i36 : Int, ∃ s37 : ByteArray, ∃ l38 : List (List PV), IdxN l1 v23.2.1 [i35, i36, s37, l38]
  (∃ s39 : ByteArray, ∃ l40 : List (List PV), IdxN l38 v30.2.1 [s39, l40]
  (∃ i41 : Int, ∃ i42 : Int, ∃ s43 : ByteArray, ∃ l44 : List (List PV), IdxN l1 v23.2.1 [i41, i42, s43, l44]
  (∃ s45 : ByteArray, ∃ l46 : List (List PV), IdxN l44 v30.2.1 [s45, l46]
  (∃ i47 : Int, CallN Tryz.prog 10 [(.agg [(.con (.int .i64 0)), s39, l46]), v30.1] [] i47
  ((@Eq PV (.ptr 0 0) (.ptr 0 0) ∧ @Eq PV v23.2.1 v23.2.1 ∧ True) ∧ @Eq Heap [[l1, l2, i3, i4, i5, s6, l7, i8, i9, i10, i11, i12, l13, s14, l15, l16, l17]] [[l1, l2, i3, i4, i5, s6, l7, i8, i9, i10, i11, i12, l13, s14, l15, l16, l17]] ∧ ∃ k48, k48 < n29 ∧ I28 k48 (i47, (IntKind.wrap .i64 (v30.2.1 + 1)), ())))))))
  ((@Eq PV (.ptr 0 0) (.ptr 0 0) ∧ True) ∧ @Eq Heap [[l1, l2, i3, i4, i5, s6, l7, i8, i9, i10, i11, i12, l13, s14, l15, l16, l17]] [[l1, l2, i3, i4, i5, s6, l7, i8, i9, i10, i11, i12, l13, s14, l15, l16, l17]] ∧ ∃ k49, k49 < n22 ∧ I21 k49 (v30.1, (IntKind.wrap .i64 (v23.2.1 + 1)), ())))
  ((@Eq PV (.ptr 0 0) (.ptr 0 0) ∧ True) ∧ @Eq Heap [[l1, l2, i3, i4, i5, s6, l7, i8, i9, i10, i11, i12, l13, s14, l15, l16, l17]] [[l1, l2, i3, i4, i5, s6, l7, i8, i9, i10, i11, i12, l13, s14, l15, l16, l17]] ∧ ∃ k50, k50 < n22 ∧ I21 k50 (v30.1, (IntKind.wrap .i64 (v23.2.1 + 1)), ()))))))
  (∃ I51 : Nat → ((Int) × (Int) × Unit) → Prop, (∃ n, I51 n (v23.1, 0, ())) ∧ ∀ (n52 : Nat) (v53 : (Int) × (Int) × Unit), I51 n52 v53 →
  (br ((decide ((v53.2.1 : Int) < (List.length l2 : Int))))
  (br ((decide ((v53.1 : Int) ≥ 0)))
  (∃ i54 : Int, ∃ i55 : Int, ∃ s56 : ByteArray, ∃ l57 : List (List PV), ∃ i58 : Int, ∃ s59 : ByteArray, ∃ l60 : List (List PV), ∃ i61 : Int, ∃ i62 : Int, ∃ i63 : Int, ∃ i64 : Int, ∃ l65 : List (List PV), ∃ s66 : ByteArray, ∃ l67 : List (List PV), ∃ l68 : List (List PV), IdxN l2 v53.2.1 [i54, i55, s56, l57, i58, s59, l60, i61, i62, i63, i64, l65, s66, l67, l68]
  (∃ i69 : Int, CallN Tryz.prog 10 [(.agg [i58, s59, l60]), (IntKind.wrap .i64 ((IntKind.wrap .i64 (v53.1 - 1)) - (minI (ByteArray.size s56 : Int) 1048576)))] [] i69
  (∃ i70 : Int, CallN Tryz.prog 8 [(.agg [i61, i62, i63, i64, l65, s66, l67, l68]), i69] [] i70
  (∃ I71 : Nat → ((Int) × (Int) × Unit) → Prop, (∃ n, I71 n (i70, 0, ())) ∧ ∀ (n72 : Nat) (v73 : (Int) × (Int) × Unit), I71 n72 v73 →
  (br ((decide ((v73.2.1 : Int) < (List.length l57 : Int))))
  (br ((decide ((v73.1 : Int) ≥ 0)))
  (∃ s74 : ByteArray, ∃ i75 : Int, ∃ s76 : ByteArray, ∃ l77 : List (List PV), IdxN l57 v73.2.1 [s74, i75, s76, l77]
  (∃ s78 : ByteArray, ∃ i79 : Int, ∃ s80 : ByteArray, ∃ l81 : List (List PV), IdxN l57 v73.2.1 [s78, i79, s80, l81]
  (∃ i82 : Int, CallN Tryz.prog 10 [(.agg [i75, s76, l77]), (IntKind.wrap .i64 (v73.1 - (minI (ByteArray.size s78 : Int) 1048576)))] [] i82
  ((@Eq PV (.ptr 0 0) (.ptr 0 0) ∧ @Eq PV v53.2.1 v53.2.1 ∧ @Eq PV (.ptr 1 0) (.ptr 1 0) ∧ True) ∧ @Eq Heap [[l1, l2, i3, i4, i5, s6, l7, i8, i9, i10, i11, i12, l13, s14, l15, l16, l17], [i54, i55, s56, l57, i58, s59, l60, i61, i62, i63, i64, l65, s66, l67, l68]] [[l1, l2, i3, i4, i5, s6, l7, i8, i9, i10, i11, i12, l13, s14, l15, l16, l17], [i54, i55, s56, l57, i58, s59, l60, i61, i62, i63, i64, l65, s66, l67, l68]] ∧ ∃ k83, k83 < n72 ∧ I71 k83 (i82, (IntKind.wrap .i64 (v73.2.1 + 1)), ())))))
  ((@Eq PV (.ptr 0 0) (.ptr 0 0) ∧ True) ∧ @Eq Heap [[l1, l2, i3, i4, i5, s6, l7, i8, i9, i10, i11, i12, l13, s14, l15, l16, l17]] [[l1, l2, i3, i4, i5, s6, l7, i8, i9, i10, i11, i12, l13, s14, l15, l16, l17]] ∧ ∃ k84, k84 < n52 ∧ I51 k84 (v73.1, (IntKind.wrap .i64 (v53.2.1 + 1)), ())))
  ((@Eq PV (.ptr 0 0) (.ptr 0 0) ∧ True) ∧ @Eq Heap [[l1, l2, i3, i4, i5, s6, l7, i8, i9, i10, i11, i12, l13, s14, l15, l16, l17]] [[l1, l2, i3, i4, i5, s6, l7, i8, i9, i10, i11, i12, l13, s14, l15, l16, l17]] ∧ ∃ k85, k85 < n52 ∧ I51 k85 (v73.1, (IntKind.wrap .i64 (v53.2.1 + 1)), ())))))))
  (∃ I86 : Nat → ((Int) × (Int) × Unit) → Prop, (∃ n, I86 n (v53.1, 0, ())) ∧ ∀ (n87 : Nat) (v88 : (Int) × (Int) × Unit), I86 n87 v88 →
  (br ((decide ((v88.2.1 : Int) < (List.length l17 : Int))))
  (br ((decide ((v88.1 : Int) ≥ 0)))
  (∃ i89 : Int, ∃ i90 : Int, ∃ s91 : ByteArray, ∃ s92 : ByteArray, ∃ i93 : Int, ∃ s94 : ByteArray, ∃ l95 : List (List PV), ∃ i96 : Int, ∃ i97 : Int, ∃ i98 : Int, ∃ i99 : Int, ∃ i100 : Int, ∃ l101 : List (List PV), ∃ s102 : ByteArray, ∃ l103 : List (List PV), ∃ l104 : List (List PV), IdxN l17 v88.2.1 [i89, i90, s91, s92, i93, s94, l95, i96, i97, i98, i99, i100, l101, s102, l103, l104]
  (∃ i105 : Int, CallN Tryz.prog 10 [(.agg [i93, s94, l95]), (IntKind.wrap .i64 ((IntKind.wrap .i64 ((IntKind.wrap .i64 (v88.1 - 1)) - (minI (ByteArray.size s91 : Int) 1048576))) - (minI (ByteArray.size s92 : Int) 1048576)))] [] i105
  (∃ i106 : Int, CallN Tryz.prog 8 [(.agg [i97, i98, i99, i100, l101, s102, l103, l104]), i105] [] i106
  ((@Eq PV (.ptr 0 0) (.ptr 0 0) ∧ True) ∧ @Eq Heap [[l1, l2, i3, i4, i5, s6, l7, i8, i9, i10, i11, i12, l13, s14, l15, l16, l17]] [[l1, l2, i3, i4, i5, s6, l7, i8, i9, i10, i11, i12, l13, s14, l15, l16, l17]] ∧ ∃ k107, k107 < n87 ∧ I86 k107 (i106, (IntKind.wrap .i64 (v88.2.1 + 1)), ())))))
  (Q v88.1 [[l1, l2, i3, i4, i5, s6, l7, i8, i9, i10, i11, i12, l13, s14, l15, l16, l17]]))
  (Q v88.1 [[l1, l2, i3, i4, i5, s6, l7, i8, i9, i10, i11, i12, l13, s14, l15, l16, l17]]))))
  (∃ I108 : Nat → ((Int) × (Int) × Unit) → Prop, (∃ n, I108 n (v53.1, 0, ())) ∧ ∀ (n109 : Nat) (v110 : (Int) × (Int) × Unit), I108 n109 v110 →
  (br ((decide ((v110.2.1 : Int) < (List.length l17 : Int))))
  (br ((decide ((v110.1 : Int) ≥ 0)))
  (∃ i111 : Int, ∃ i112 : Int, ∃ s113 : ByteArray, ∃ s114 : ByteArray, ∃ i115 : Int, ∃ s116 : ByteArray, ∃ l117 : List (List PV), ∃ i118 : Int, ∃ i119 : Int, ∃ i120 : Int, ∃ i121 : Int, ∃ i122 : Int, ∃ l123 : List (List PV), ∃ s124 : ByteArray, ∃ l125 : List (List PV), ∃ l126 : List (List PV), IdxN l17 v110.2.1 [i111, i112, s113, s114, i115, s116, l117, i118, i119, i120, i121, i122, l123, s124, l125, l126]
  (∃ i127 : Int, CallN Tryz.prog 10 [(.agg [i115, s116, l117]), (IntKind.wrap .i64 ((IntKind.wrap .i64 ((IntKind.wrap .i64 (v110.1 - 1)) - (minI (ByteArray.size s113 : Int) 1048576))) - (minI (ByteArray.size s114 : Int) 1048576)))] [] i127
  (∃ i128 : Int, CallN Tryz.prog 8 [(.agg [i119, i120, i121, i122, l123, s124, l125, l126]), i127] [] i128
  ((@Eq PV (.ptr 0 0) (.ptr 0 0) ∧ True) ∧ @Eq Heap [[l1, l2, i3, i4, i5, s6, l7, i8, i9, i10, i11, i12, l13, s14, l15, l16, l17]] [[l1, l2, i3, i4, i5, s6, l7, i8, i9, i10, i11, i12, l13, s14, l15, l16, l17]] ∧ ∃ k129, k129 < n109 ∧ I108 k129 (i128, (IntKind.wrap .i64 (v110.2.1 + 1)), ())))))
  (Q v110.1 [[l1, l2, i3, i4, i5, s6, l7, i8, i9, i10, i11, i12, l13, s14, l15, l16, l17]]))
  (Q v110.1 [[l1, l2, i3, i4, i5, s6, l7, i8, i9, i10, i11, i12, l13, s14, l15, l16, l17]]))))))
  (∃ I130 : Nat → ((Int) × (Int) × Unit) → Prop, (∃ n, I130 n (v23.1, 0, ())) ∧ ∀ (n131 : Nat) (v132 : (Int) × (Int) × Unit), I130 n131 v132 →
  (br ((decide ((v132.2.1 : Int) < (List.length l2 : Int))))
  (br ((decide ((v132.1 : Int) ≥ 0)))
  (∃ i133 : Int, ∃ i134 : Int, ∃ s135 : ByteArray, ∃ l136 : List (List PV), ∃ i137 : Int, ∃ s138 : ByteArray, ∃ l139 : List (List PV), ∃ i140 : Int, ∃ i141 : Int, ∃ i142 : Int, ∃ i143 : Int, ∃ l144 : List (List PV), ∃ s145 : ByteArray, ∃ l146 : List (List PV), ∃ l147 : List (List PV), IdxN l2 v132.2.1 [i133, i134, s135, l136, i137, s138, l139, i140, i141, i142, i143, l144, s145, l146, l147]
  (∃ i148 : Int, CallN Tryz.prog 10 [(.agg [i137, s138, l139]), (IntKind.wrap .i64 ((IntKind.wrap .i64 (v132.1 - 1)) - (minI (ByteArray.size s135 : Int) 1048576)))] [] i148
  (∃ i149 : Int, CallN Tryz.prog 8 [(.agg [i140, i141, i142, i143, l144, s145, l146, l147]), i148] [] i149
  (∃ I150 : Nat → ((Int) × (Int) × Unit) → Prop, (∃ n, I150 n (i149, 0, ())) ∧ ∀ (n151 : Nat) (v152 : (Int) × (Int) × Unit), I150 n151 v152 →
  (br ((decide ((v152.2.1 : Int) < (List.length l136 : Int))))
  (br ((decide ((v152.1 : Int) ≥ 0)))
  (∃ s153 : ByteArray, ∃ i154 : Int, ∃ s155 : ByteArray, ∃ l156 : List (List PV), IdxN l136 v152.2.1 [s153, i154, s155, l156]
  (∃ s157 : ByteArray, ∃ i158 : Int, ∃ s159 : ByteArray, ∃ l160 : List (List PV), IdxN l136 v152.2.1 [s157, i158, s159, l160]
  (∃ i161 : Int, CallN Tryz.prog 10 [(.agg [i154, s155, l156]), (IntKind.wrap .i64 (v152.1 - (minI (ByteArray.size s157 : Int) 1048576)))] [] i161
  ((@Eq PV (.ptr 0 0) (.ptr 0 0) ∧ @Eq PV v132.2.1 v132.2.1 ∧ @Eq PV (.ptr 1 0) (.ptr 1 0) ∧ True) ∧ @Eq Heap [[l1, l2, i3, i4, i5, s6, l7, i8, i9, i10, i11, i12, l13, s14, l15, l16, l17], [i133, i134, s135, l136, i137, s138, l139, i140, i141, i142, i143, l144, s145, l146, l147]] [[l1, l2, i3, i4, i5, s6, l7, i8, i9, i10, i11, i12, l13, s14, l15, l16, l17], [i133, i134, s135, l136, i137, s138, l139, i140, i141, i142, i143, l144, s145, l146, l147]] ∧ ∃ k162, k162 < n151 ∧ I150 k162 (i161, (IntKind.wrap .i64 (v152.2.1 + 1)), ())))))
  ((@Eq PV (.ptr 0 0) (.ptr 0 0) ∧ True) ∧ @Eq Heap [[l1, l2, i3, i4, i5, s6, l7, i8, i9, i10, i11, i12, l13, s14, l15, l16, l17]] [[l1, l2, i3, i4, i5, s6, l7, i8, i9, i10, i11, i12, l13, s14, l15, l16, l17]] ∧ ∃ k163, k163 < n131 ∧ I130 k163 (v152.1, (IntKind.wrap .i64 (v132.2.1 + 1)), ())))
  ((@Eq PV (.ptr 0 0) (.ptr 0 0) ∧ True) ∧ @Eq Heap [[l1, l2, i3, i4, i5, s6, l7, i8, i9, i10, i11, i12, l13, s14, l15, l16, l17]] [[l1, l2, i3, i4, i5, s6, l7, i8, i9, i10, i11, i12, l13, s14, l15, l16, l17]] ∧ ∃ k164, k164 < n131 ∧ I130 k164 (v152.1, (IntKind.wrap .i64 (v132.2.1 + 1)), ())))))))
  (∃ I165 : Nat → ((Int) × (Int) × Unit) → Prop, (∃ n, I165 n (v132.1, 0, ())) ∧ ∀ (n166 : Nat) (v167 : (Int) × (Int) × Unit), I165 n166 v167 →
  (br ((decide ((v167.2.1 : Int) < (List.length l17 : Int))))
  (br ((decide ((v167.1 : Int) ≥ 0)))
  (∃ i168 : Int, ∃ i169 : Int, ∃ s170 : ByteArray, ∃ s171 : ByteArray, ∃ i172 : Int, ∃ s173 : ByteArray, ∃ l174 : List (List PV), ∃ i175 : Int, ∃ i176 : Int, ∃ i177 : Int, ∃ i178 : Int, ∃ i179 : Int, ∃ l180 : List (List PV), ∃ s181 : ByteArray, ∃ l182 : List (List PV), ∃ l183 : List (List PV), IdxN l17 v167.2.1 [i168, i169, s170, s171, i172, s173, l174, i175, i176, i177, i178, i179, l180, s181, l182, l183]
  (∃ i184 : Int, CallN Tryz.prog 10 [(.agg [i172, s173, l174]), (IntKind.wrap .i64 ((IntKind.wrap .i64 ((IntKind.wrap .i64 (v167.1 - 1)) - (minI (ByteArray.size s170 : Int) 1048576))) - (minI (ByteArray.size s171 : Int) 1048576)))] [] i184
  (∃ i185 : Int, CallN Tryz.prog 8 [(.agg [i176, i177, i178, i179, l180, s181, l182, l183]), i184] [] i185
  ((@Eq PV (.ptr 0 0) (.ptr 0 0) ∧ True) ∧ @Eq Heap [[l1, l2, i3, i4, i5, s6, l7, i8, i9, i10, i11, i12, l13, s14, l15, l16, l17]] [[l1, l2, i3, i4, i5, s6, l7, i8, i9, i10, i11, i12, l13, s14, l15, l16, l17]] ∧ ∃ k186, k186 < n166 ∧ I165 k186 (i185, (IntKind.wrap .i64 (v167.2.1 + 1)), ())))))
  (Q v167.1 [[l1, l2, i3, i4, i5, s6, l7, i8, i9, i10, i11, i12, l13, s14, l15, l16, l17]]))
  (Q v167.1 [[l1, l2, i3, i4, i5, s6, l7, i8, i9, i10, i11, i12, l13, s14, l15, l16, l17]]))))
  (∃ I187 : Nat → ((Int) × (Int) × Unit) → Prop, (∃ n, I187 n (v132.1, 0, ())) ∧ ∀ (n188 : Nat) (v189 : (Int) × (Int) × Unit), I187 n188 v189 →
  (br ((decide ((v189.2.1 : Int) < (List.length l17 : Int))))
  (br ((decide ((v189.1 : Int) ≥ 0)))
  (∃ i190 : Int, ∃ i191 : Int, ∃ s192 : ByteArray, ∃ s193 : ByteArray, ∃ i194 : Int, ∃ s195 : ByteArray, ∃ l196 : List (List PV), ∃ i197 : Int, ∃ i198 : Int, ∃ i199 : Int, ∃ i200 : Int, ∃ i201 : Int, ∃ l202 : List (List PV), ∃ s203 : ByteArray, ∃ l204 : List (List PV), ∃ l205 : List (List PV), IdxN l17 v189.2.1 [i190, i191, s192, s193, i194, s195, l196, i197, i198, i199, i200, i201, l202, s203, l204, l205]
  (∃ i206 : Int, CallN Tryz.prog 10 [(.agg [i194, s195, l196]), (IntKind.wrap .i64 ((IntKind.wrap .i64 ((IntKind.wrap .i64 (v189.1 - 1)) - (minI (ByteArray.size s192 : Int) 1048576))) - (minI (ByteArray.size s193 : Int) 1048576)))] [] i206
  (∃ i207 : Int, CallN Tryz.prog 8 [(.agg [i198, i199, i200, i201, l202, s203, l204, l205]), i206] [] i207
  ((@Eq PV (.ptr 0 0) (.ptr 0 0) ∧ True) ∧ @Eq Heap [[l1, l2, i3, i4, i5, s6, l7, i8, i9, i10, i11, i12, l13, s14, l15, l16, l17]] [[l1, l2, i3, i4, i5, s6, l7, i8, i9, i10, i11, i12, l13, s14, l15, l16, l17]] ∧ ∃ k208, k208 < n188 ∧ I187 k208 (i207, (IntKind.wrap .i64 (v189.2.1 + 1)), ())))))
  (Q v189.1 [[l1, l2, i3, i4, i5, s6, l7, i8, i9, i10, i11, i12, l13, s14, l15, l16, l17]]))
  (Q v189.1 [[l1, l2, i3, i4, i5, s6, l7, i8, i9, i10, i11, i12, l13, s14, l15, l16, l17]]))))))))
theorem a32 (l1 l2 : List (List PV)) (i3 i4 i5 : Int) (s6 : ByteArray) (l7 : List (List PV)) (i8 i9 i10 i11 i12 : Int) (l13 : List (List PV)) (s14 : ByteArray) (l15 l16 l17 : List (List PV)) (i18 : Int) (Q : PV → Heap → Prop) (h : p32 l1 l2 i3 i4 i5 s6 l7 i8 i9 i10 i11 i12 l13 s14 l15 l16 l17 i18 Q) : ACalls Tryz.prog 32 [(.agg [l1, l2, i3, i4, i5, s6, l7, i8, i9, i10, i11, i12, l13, s14, l15, l16, l17]), i18] [] Q := by
  have hb : Option.some (bodyOf Tryz.f32) = Tryz.f32.body := by kernel_rfl
  exact acalls_eq (S := S) (L := loops32) mixed tok Tryz.func32 hb.symm (by kernel_rfl) h
end Go.Proofs.YtcmnjodjebcapaaGreat.Deep

namespace Go.Proofs.YtcmnjodjebcapaaGreat.Deep
open Go.RowKit
set_option linter.unusedVariables false
set_option linter.unusedSimpArgs false
structure Co where
  name : ByteArray
  fields : List Ty
structure Da where
  line : Int
  col : Int
  name : ByteArray
  cons : List Co
structure Pa where
  name : ByteArray
  ty : Ty
structure Fu where
  line : Int
  col : Int
  name : ByteArray
  params : List Pa
  result : Ty
  body : Ex
structure Ha where
  line : Int
  col : Int
  name : ByteArray
  param : Pa
  cap : Int
  body : Ex
structure Pr where
  datas : List Da
  funs : List Fu
  queue : Int
  timers : Int
  state : Ty
  cap : Int
  init : Ex
  hands : List Ha
def coP (c : Co) : List PV := [.con (.string c.name), .sl (tyPs c.fields)]
def daP (d : Da) : List PV := [.con (.int .i64 d.line), .con (.int .i64 d.col), .con (.string d.name), .sl (d.cons.map coP)]
def paP (p : Pa) : List PV := .con (.string p.name) :: tyP p.ty
def fuP (f : Fu) : List PV := [.con (.int .i64 f.line), .con (.int .i64 f.col), .con (.string f.name), .sl (f.params.map paP)] ++ (tyP f.result ++ exP f.body)
def haP (h : Ha) : List PV := [.con (.int .i64 h.line), .con (.int .i64 h.col), .con (.string h.name)] ++ (paP h.param ++ (.con (.int .i64 h.cap) :: exP h.body))
def prP (p : Pr) : List PV := [.sl (p.datas.map daP), .sl (p.funs.map fuP), .con (.int .i64 p.queue), .con (.int .i64 p.timers)] ++ (tyP p.state ++ (.con (.int .i64 p.cap) :: (exP p.init ++ [.sl (p.hands.map haP)])))
def conB (c : Co) : Bool := namedB c.name true && (decide (c.fields.length ≤ 6) && c.fields.all (fitTy 64))
def dataOk (d : Da) : Bool := dataB d.name && (inB 1 16 d.cons.length && d.cons.all conB)
def paramB (p : Pa) : Bool := namedB p.name false && fitTy 64 p.ty
def funOk (f : Fu) : Bool := funB f.name && (inB 1 6 f.params.length && (fitTy 64 f.result && (fitEx 64 f.body && f.params.all paramB)))
def handB (h : Ha) : Bool := namedB h.name false && (paramB h.param && (inB 0 64 h.cap && fitEx 64 h.body))
def progB (p : Pr) : Bool := decide (p.datas.length ≤ 32) && (decide (p.funs.length ≤ 48) && (decide (p.hands.length ≤ 16) && (inB 1 32 p.queue && (inB 0 32 p.timers && (fitTy 64 p.state && (inB 0 256 p.cap && (fitEx 64 p.init && (p.datas.all dataOk && (p.funs.all funOk && p.hands.all handB)))))))))
def smallCo (c : Co) : Prop := c.name.size ≤ 3000 ∧ c.fields.length ≤ 3000 ∧ smallTys c.fields
def smallDa (d : Da) : Prop := d.name.size ≤ 3000 ∧ d.cons.length ≤ 3000 ∧ ∀ c ∈ d.cons, smallCo c
def smallPa (p : Pa) : Prop := p.name.size ≤ 3000 ∧ smallTy p.ty
def smallFu (f : Fu) : Prop := f.name.size ≤ 3000 ∧ f.params.length ≤ 3000 ∧ (∀ p ∈ f.params, smallPa p) ∧ smallTy f.result ∧ smallEx f.body
def smallHa (h : Ha) : Prop := h.name.size ≤ 3000 ∧ smallPa h.param ∧ smallEx h.body
def smallPr (p : Pr) : Prop := p.datas.length ≤ 3000 ∧ (∀ d ∈ p.datas, smallDa d) ∧ p.funs.length ≤ 3000 ∧ (∀ f ∈ p.funs, smallFu f) ∧ p.hands.length ≤ 3000 ∧ (∀ h ∈ p.hands, smallHa h) ∧ smallTy p.state ∧ smallEx p.init
def wfPr (p : Pr) : Prop := (∀ f ∈ p.funs, wfEx f.body) ∧ (∀ h ∈ p.hands, wfEx h.body) ∧ wfEx p.init
theorem ty_mk (t : Ty) : ∃ k n ps, t = .mk k n ps := by cases t; exact ⟨_, _, _, rfl⟩
theorem pt_mk (t : Pt) : ∃ k li co n m ps, t = .mk k li co n m ps := by cases t; exact ⟨_, _, _, _, _, _, rfl⟩
theorem ex_mk (t : Ex) : ∃ k li co m b n ks ps bs, t = .mk k li co m b n ks ps bs := by cases t; exact ⟨_, _, _, _, _, _, _, _, _, rfl⟩
theorem map_get {α : Type} (f : α → List PV) (l : List α) (j : Nat) (h : j < l.length) : (l.map f)[j]? = some (f l[j]) := by
  rw [List.getElem?_map, List.getElem?_eq_getElem h]; rfl
theorem le_not {b : Bool} (h : (!b) = true) : b = false := by simpa using h
theorem le_yes {b : Bool} (h : (!b) = false) : b = true := by simpa using h
theorem param_p (p : Pa) (hs : smallPa p) : PCalls Tryz.prog 44 [.agg (paP p)] (fun r => r = .con (.bool (paramB p))) := by
  obtain ⟨nm, ty⟩ := p
  have h := fit_tyF ty hs.2
  unfold paramB
  dsimp only
  obtain ⟨k, n, ps, hp⟩ := ty_mk ty
  subst hp
  refine a44 _ _ _ _ _ ?_
  unfold p44
  refine ⟨_, call_p (enters_of Tryz.func43 (by kernel_rfl) rfl) (rnamed_p nm false hs.1) rfl ?_⟩
  refine br_i (fun hx => ?_) (fun hx => ⟨by rw [hx]; rfl, rfl⟩)
  exact ⟨_, call_p (enters_of Tryz.func19 (by kernel_rfl) rfl) h rfl ⟨by rw [hx]; rfl, rfl⟩⟩
theorem data_p (d : Da) (hs : smallDa d) : PCalls Tryz.prog 41 [.agg (daP d)] (fun r => r = .con (.bool (dataOk d))) := by
  obtain ⟨li, co, nm, cs⟩ := d
  obtain ⟨h1, h2, h3⟩ := hs
  dsimp only at h1 h2 h3
  unfold dataOk
  dsimp only
  refine a41 _ _ _ _ _ ?_
  unfold p41
  rw [List.length_map]
  refine ⟨_, call_p (enters_of Tryz.func93 (by kernel_rfl) rfl) (rsmall_p nm h1) rfl ?_⟩
  refine br_i (fun hx => ⟨by rw [le_not hx]; rfl, rfl⟩) (fun hx => ?_)
  rw [le_yes hx, Bool.true_and]
  refine br_i (fun hx => ⟨?_, rfl⟩) (fun hx1 => ?_)
  · have : (cs.length : Int) < 1 := by simpa using hx
    have e : inB 1 16 cs.length = false := by unfold inB; simp; omega
    rw [e]; rfl
  refine br_i (fun hx => ⟨?_, rfl⟩) (fun hx2 => ?_)
  · have : (cs.length : Int) > 16 := by simpa using hx
    have e : inB 1 16 cs.length = false := by unfold inB; simp; omega
    rw [e]; rfl
  have e : inB 1 16 cs.length = true := by unfold inB; simp at hx1 hx2 ⊢; omega
  rw [e, Bool.true_and]
  refine ⟨fun c v => ∃ j : Nat, j ≤ cs.length ∧ c = cs.length - j ∧ v.1 = (j : Int) ∧ (cs.take j).all conB = true, ⟨_, 0, Nat.zero_le _, rfl, rfl, by simp⟩, ?_⟩
  rintro c ⟨i, u⟩ ⟨j, hj, rfl, hi, hall⟩
  dsimp only at hi ⊢
  subst hi
  refine br_i (fun hlt => ?_) (fun hge => ?_)
  · have hlt : j < cs.length := by simpa using hlt
    have hx := map_get coP cs j hlt
    have hsc := h3 cs[j] (List.getElem_mem hlt)
    have ht := all_take conB cs j hlt
    have hno := all_no conB cs j hlt
    obtain ⟨cc, hcc⟩ : ∃ cc, cs[j] = cc := ⟨_, rfl⟩
    rw [hcc] at hx hsc ht hno
    obtain ⟨cn, cf⟩ := cc
    obtain ⟨q1, q2, q3⟩ := hsc
    dsimp only at q1 q2 q3
    rw [show conB ⟨cn, cf⟩ = (namedB cn true && (decide (cf.length ≤ 6) && cf.all (fitTy 64))) from rfl] at ht hno
    refine ⟨_, _, ⟨by omega, by rw [Int.toNat_natCast]; exact hx, ?_⟩⟩
    refine ⟨_, call_p (enters_of Tryz.func43 (by kernel_rfl) rfl) (rnamed_p cn true q1) rfl ?_⟩
    refine br_i (fun hb => ⟨by rw [hno (by rw [le_not hb]; rfl)], rfl⟩) (fun hb => ?_)
    rw [le_yes hb] at ht hno
    rw [tyPs_len]
    refine br_i (fun hb => ⟨?_, rfl⟩) (fun hb2 => ?_)
    · have : (cf.length : Int) > 6 := by simpa using hb
      rw [hno (by simp; omega)]
    have hcf : cf.length ≤ 6 := by simp at hb2; omega
    refine ⟨fun c v => ∃ i : Nat, i ≤ cf.length ∧ c = cf.length - i ∧ v.1 = (i : Int) ∧ (cf.take i).all (fitTy 64) = true, ⟨_, 0, Nat.zero_le _, rfl, rfl, by simp⟩, ?_⟩
    rintro c ⟨i, u⟩ ⟨j2, hj2, rfl, hi, hall2⟩
    dsimp only at hi ⊢
    subst hi
    refine br_i (fun hlt2 => ?_) (fun hge2 => ?_)
    · have hlt2 : j2 < cf.length := by simpa using hlt2
      have hx2 := tyPs_get cf j2 hlt2
      have hi2 := fit_tyF cf[j2] (smallTys_get cf q3 j2 hlt2)
      have ht2 := all_take (fitTy 64) cf j2 hlt2
      have hno2 := all_no (fitTy 64) cf j2 hlt2
      obtain ⟨k', n', ps', hp⟩ := ty_mk cf[j2]
      rw [hp] at hx2 hi2 ht2 hno2
      refine ⟨_, _, _, ⟨by omega, by rw [Int.toNat_natCast]; exact hx2, ?_⟩⟩
      refine ⟨_, call_p (enters_of Tryz.func19 (by kernel_rfl) rfl) hi2 rfl ?_⟩
      refine br_i (fun hb => ⟨?_, rfl⟩) (fun hb => ⟨⟨by trivial, by trivial, by trivial, trivial⟩, by trivial, cf.length - (j2 + 1), by omega, j2 + 1, by omega, by trivial, ?_, ?_⟩)
      · rw [hno (by rw [hno2 (le_not hb)]; simp)]
      · rw [wrap_id (by omega) (by omega)]; simp
      · rw [ht2, hall2, le_yes hb]; rfl
    · have hge2 : ¬ j2 < cf.length := by simpa using hge2
      rw [List.take_of_length_le (by omega)] at hall2
      refine ⟨⟨by trivial, trivial⟩, by trivial, cs.length - (j + 1), by omega, j + 1, by omega, by trivial, ?_, ?_⟩
      · rw [wrap_id (by omega) (by omega)]; simp
      · rw [ht, hall, hall2]; simp [hcf]
  · have hge : ¬ j < cs.length := by simpa using hge
    rw [List.take_of_length_le (by omega)] at hall
    exact ⟨by rw [hall], rfl⟩
theorem fun_p (f : Fu) (hs : smallFu f) (hw : wfEx f.body) : PCalls Tryz.prog 42 [.agg (fuP f)] (fun r => r = .con (.bool (funOk f))) := by
  obtain ⟨li, co, nm, pas, res, body⟩ := f
  obtain ⟨h1, h2, h3, h4, h5⟩ := hs
  dsimp only at h1 h2 h3 h4 h5 hw
  have hr := fit_tyF res h4
  have hb := fit_exF body h5 hw
  unfold funOk
  dsimp only
  obtain ⟨k, n, ps, hp⟩ := ty_mk res
  obtain ⟨k', li', co', m', b', n', ks', ps', bs', hp2⟩ := ex_mk body
  subst hp hp2
  refine a42 _ _ _ _ _ _ _ _ _ _ _ _ _ _ _ _ ?_
  unfold p42
  rw [List.length_map]
  refine ⟨_, call_p (enters_of Tryz.func94 (by kernel_rfl) rfl) (rcalled_p nm h1) rfl ?_⟩
  refine br_i (fun hx => ⟨by rw [le_not hx]; rfl, rfl⟩) (fun hx => ?_)
  rw [le_yes hx, Bool.true_and]
  refine br_i (fun hx => ⟨?_, rfl⟩) (fun hx1 => ?_)
  · have : (pas.length : Int) < 1 := by simpa using hx
    have e : inB 1 6 pas.length = false := by unfold inB; simp; omega
    rw [e]; rfl
  refine br_i (fun hx => ⟨?_, rfl⟩) (fun hx2 => ?_)
  · have : (pas.length : Int) > 6 := by simpa using hx
    have e : inB 1 6 pas.length = false := by unfold inB; simp; omega
    rw [e]; rfl
  have e : inB 1 6 pas.length = true := by unfold inB; simp at hx1 hx2 ⊢; omega
  rw [e, Bool.true_and]
  refine ⟨_, call_p (enters_of Tryz.func19 (by kernel_rfl) rfl) hr rfl ?_⟩
  refine br_i (fun hx => ⟨by rw [le_not hx]; rfl, rfl⟩) (fun hx => ?_)
  rw [le_yes hx, Bool.true_and]
  refine ⟨_, call_p (enters_of Tryz.func15 (by kernel_rfl) rfl) hb rfl ?_⟩
  refine br_i (fun hx => ⟨by rw [le_not hx]; rfl, rfl⟩) (fun hx => ?_)
  rw [le_yes hx, Bool.true_and]
  refine ⟨fun c v => ∃ j : Nat, j ≤ pas.length ∧ c = pas.length - j ∧ v.1 = (j : Int) ∧ (pas.take j).all paramB = true, ⟨_, 0, Nat.zero_le _, rfl, rfl, by simp⟩, ?_⟩
  rintro c ⟨i, u⟩ ⟨j, hj, rfl, hi, hall⟩
  dsimp only at hi ⊢
  subst hi
  refine br_i (fun hlt => ?_) (fun hge => ?_)
  · have hlt : j < pas.length := by simpa using hlt
    have hx := map_get paP pas j hlt
    have hi := param_p pas[j] (h3 pas[j] (List.getElem_mem hlt))
    have ht := all_take paramB pas j hlt
    have hno := all_no paramB pas j hlt
    obtain ⟨cc, hcc⟩ : ∃ cc, pas[j] = cc := ⟨_, rfl⟩
    rw [hcc] at hx hi ht hno
    obtain ⟨cn, ct⟩ := cc
    obtain ⟨k, n, ps, hp⟩ := ty_mk ct
    subst hp
    refine ⟨_, _, _, _, ⟨by omega, by rw [Int.toNat_natCast]; exact hx, ?_⟩⟩
    refine ⟨_, call_p (enters_of Tryz.func44 (by kernel_rfl) rfl) hi rfl ?_⟩
    refine br_i (fun hb => ⟨by rw [hno (le_not hb)], rfl⟩) (fun hb => ⟨⟨by trivial, trivial⟩, by trivial, pas.length - (j + 1), by omega, j + 1, by omega, by trivial, ?_, ?_⟩)
    · rw [wrap_id (by omega) (by omega)]; simp
    · rw [ht, hall, le_yes hb]; rfl
  · have hge : ¬ j < pas.length := by simpa using hge
    rw [List.take_of_length_le (by omega)] at hall
    exact ⟨by rw [hall], rfl⟩
theorem in_lo {a b n : Int} (h : decide (n < a) = true) : inB a b n = false := by unfold inB; simp at h ⊢; omega
theorem in_hi {a b n : Int} (h : decide (n > b) = true) : inB a b n = false := by unfold inB; simp at h ⊢; omega
theorem in_ok {a b n : Int} (h : decide (n < a) = false) (h2 : decide (n > b) = false) : inB a b n = true := by unfold inB; simp at h h2 ⊢; omega
theorem prog_p (p : Pr) (hs : smallPr p) (hw : wfPr p) : PCalls Tryz.prog 13 [.agg (prP p)] (fun r => r = .con (.bool (progB p))) := by
  obtain ⟨ds, fs, q, tm, st, cp, ini, hds⟩ := p
  obtain ⟨h1, h2, h3, h4, h5, h6, h7, h8⟩ := hs
  obtain ⟨w1, w2, w3⟩ := hw
  dsimp only at h1 h2 h3 h4 h5 h6 h7 h8 w1 w2 w3
  have hr := fit_tyF st h7
  have hb := fit_exF ini h8 w3
  unfold progB
  dsimp only
  obtain ⟨k, n, ps, hp⟩ := ty_mk st
  obtain ⟨k', li', co', m', b', n', ks', ps', bs', hp2⟩ := ex_mk ini
  subst hp hp2
  refine a13 _ _ _ _ _ _ _ _ _ _ _ _ _ _ _ _ _ _ ?_
  unfold p13
  rw [List.length_map, List.length_map, List.length_map]
  refine br_i (fun hx => ⟨?_, rfl⟩) (fun hx => ?_)
  · have e : decide (ds.length ≤ 32) = false := by simp at hx ⊢; omega
    rw [e]; rfl
  have e : decide (ds.length ≤ 32) = true := by simp at hx ⊢; omega
  rw [e, Bool.true_and]
  clear e hx
  refine br_i (fun hx => ⟨?_, rfl⟩) (fun hx => ?_)
  · have e : decide (fs.length ≤ 48) = false := by simp at hx ⊢; omega
    rw [e]; rfl
  have e : decide (fs.length ≤ 48) = true := by simp at hx ⊢; omega
  rw [e, Bool.true_and]
  clear e hx
  refine br_i (fun hx => ⟨?_, rfl⟩) (fun hx => ?_)
  · have e : decide (hds.length ≤ 16) = false := by simp at hx ⊢; omega
    rw [e]; rfl
  have e : decide (hds.length ≤ 16) = true := by simp at hx ⊢; omega
  rw [e, Bool.true_and]
  clear e hx
  refine br_i (fun hx => ⟨by rw [in_lo hx]; rfl, rfl⟩) (fun hx => br_i (fun hy => ⟨by rw [in_hi hy]; rfl, rfl⟩) (fun hy => ?_))
  rw [in_ok hx hy, Bool.true_and]
  refine br_i (fun hx => ⟨by rw [in_lo hx]; rfl, rfl⟩) (fun hx => br_i (fun hy => ⟨by rw [in_hi hy]; rfl, rfl⟩) (fun hy => ?_))
  rw [in_ok hx hy, Bool.true_and]
  refine ⟨_, call_p (enters_of Tryz.func19 (by kernel_rfl) rfl) hr rfl ?_⟩
  refine br_i (fun hx => ⟨by rw [le_not hx]; rfl, rfl⟩) (fun hx => ?_)
  rw [le_yes hx, Bool.true_and]
  refine br_i (fun hx => ⟨by rw [in_lo hx]; rfl, rfl⟩) (fun hx => br_i (fun hy => ⟨by rw [in_hi hy]; rfl, rfl⟩) (fun hy => ?_))
  rw [in_ok hx hy, Bool.true_and]
  refine ⟨_, call_p (enters_of Tryz.func15 (by kernel_rfl) rfl) hb rfl ?_⟩
  refine br_i (fun hx => ⟨by rw [le_not hx]; rfl, rfl⟩) (fun hx => ?_)
  rw [le_yes hx, Bool.true_and]
  refine ⟨fun c v => ∃ j : Nat, j ≤ ds.length ∧ c = ds.length - j ∧ v.1 = (j : Int) ∧ (ds.take j).all dataOk = true, ⟨_, 0, Nat.zero_le _, rfl, rfl, by simp⟩, ?_⟩
  rintro c ⟨i, u⟩ ⟨j, hj, rfl, hi, hall⟩
  dsimp only at hi ⊢
  subst hi
  refine br_i (fun hlt => ?_) (fun hge => ?_)
  · have hlt : j < ds.length := by simpa using hlt
    have hx := map_get daP ds j hlt
    have hi := data_p ds[j] (h2 ds[j] (List.getElem_mem hlt))
    have ht := all_take dataOk ds j hlt
    have hno := all_no dataOk ds j hlt
    obtain ⟨cc, hcc⟩ : ∃ cc, ds[j] = cc := ⟨_, rfl⟩
    rw [hcc] at hx hi ht hno
    refine ⟨_, _, _, _, ⟨by omega, by rw [Int.toNat_natCast]; exact hx, ?_⟩⟩
    refine ⟨_, call_p (enters_of Tryz.func41 (by kernel_rfl) rfl) hi rfl ?_⟩
    refine br_i (fun hb => ⟨by rw [hno (le_not hb)]; rfl, rfl⟩) (fun hb => ⟨⟨by trivial, trivial⟩, by trivial, ds.length - (j + 1), by omega, j + 1, by omega, by trivial, ?_, ?_⟩)
    · rw [wrap_id (by omega) (by omega)]; simp
    · rw [ht, hall, le_yes hb]; rfl
  have hge : ¬ j < ds.length := by simpa using hge
  rw [List.take_of_length_le (by omega)] at hall
  rw [hall, Bool.true_and]
  refine ⟨fun c v => ∃ j : Nat, j ≤ fs.length ∧ c = fs.length - j ∧ v.1 = (j : Int) ∧ (fs.take j).all funOk = true, ⟨_, 0, Nat.zero_le _, rfl, rfl, by simp⟩, ?_⟩
  rintro c ⟨i, u⟩ ⟨j2, hj2, rfl, hi, hall2⟩
  dsimp only at hi ⊢
  subst hi
  refine br_i (fun hlt => ?_) (fun hge2 => ?_)
  · have hlt : j2 < fs.length := by simpa using hlt
    have hx := map_get fuP fs j2 hlt
    have hi := fun_p fs[j2] (h4 fs[j2] (List.getElem_mem hlt)) (w1 fs[j2] (List.getElem_mem hlt))
    have ht := all_take funOk fs j2 hlt
    have hno := all_no funOk fs j2 hlt
    obtain ⟨cc, hcc⟩ : ∃ cc, fs[j2] = cc := ⟨_, rfl⟩
    rw [hcc] at hx hi ht hno
    obtain ⟨fli, fco, fnm, fpa, fre, fbo⟩ := cc
    obtain ⟨k, n, ps, hp⟩ := ty_mk fre
    obtain ⟨k', li', co', m', b', n', ks', ps', bs', hp2⟩ := ex_mk fbo
    subst hp hp2
    refine ⟨_, _, _, _, _, _, _, _, _, _, _, _, _, _, _, ⟨by omega, by rw [Int.toNat_natCast]; exact hx, ?_⟩⟩
    refine ⟨_, call_p (enters_of Tryz.func42 (by kernel_rfl) rfl) hi rfl ?_⟩
    refine br_i (fun hb => ⟨by rw [hno (le_not hb)]; rfl, rfl⟩) (fun hb => ⟨⟨by trivial, trivial⟩, by trivial, fs.length - (j2 + 1), by omega, j2 + 1, by omega, by trivial, ?_, ?_⟩)
    · rw [wrap_id (by omega) (by omega)]; simp
    · rw [ht, hall2, le_yes hb]; rfl
  have hge2 : ¬ j2 < fs.length := by simpa using hge2
  rw [List.take_of_length_le (by omega)] at hall2
  rw [hall2, Bool.true_and]
  refine ⟨fun c v => ∃ j : Nat, j ≤ hds.length ∧ c = hds.length - j ∧ v.1 = (j : Int) ∧ (hds.take j).all handB = true, ⟨_, 0, Nat.zero_le _, rfl, rfl, by simp⟩, ?_⟩
  rintro c ⟨i, u⟩ ⟨j3, hj3, rfl, hi, hall3⟩
  dsimp only at hi ⊢
  subst hi
  refine br_i (fun hlt => ?_) (fun hge3 => ?_)
  · have hlt : j3 < hds.length := by simpa using hlt
    have hx := map_get haP hds j3 hlt
    have hsm := h6 hds[j3] (List.getElem_mem hlt)
    have hwf := w2 hds[j3] (List.getElem_mem hlt)
    have ht := all_take handB hds j3 hlt
    have hno := all_no handB hds j3 hlt
    obtain ⟨cc, hcc⟩ : ∃ cc, hds[j3] = cc := ⟨_, rfl⟩
    rw [hcc] at hx hsm hwf ht hno
    obtain ⟨hli, hco, hnm, hpa, hcp, hbo⟩ := cc
    obtain ⟨s1, s2, s3⟩ := hsm
    dsimp only at s1 s2 s3 hwf
    have hi1 := param_p hpa s2
    have hi2 := fit_exF hbo s3 hwf
    rw [show handB ⟨hli, hco, hnm, hpa, hcp, hbo⟩ = (namedB hnm false && (paramB hpa && (inB 0 64 hcp && fitEx 64 hbo))) from rfl] at ht hno
    obtain ⟨pn, pt⟩ := hpa
    obtain ⟨k, n, ps, hp⟩ := ty_mk pt
    obtain ⟨k', li', co', m', b', n', ks', ps', bs', hp2⟩ := ex_mk hbo
    subst hp hp2
    refine ⟨_, _, _, _, _, _, _, _, _, _, _, _, _, _, _, _, ⟨by omega, by rw [Int.toNat_natCast]; exact hx, ?_⟩⟩
    refine ⟨_, call_p (enters_of Tryz.func43 (by kernel_rfl) rfl) (rnamed_p hnm false s1) rfl ?_⟩
    refine br_i (fun hb => ⟨by rw [hno (by rw [le_not hb]; rfl)], rfl⟩) (fun hb => ?_)
    rw [le_yes hb, Bool.true_and] at ht hno
    refine ⟨_, call_p (enters_of Tryz.func44 (by kernel_rfl) rfl) hi1 rfl ?_⟩
    refine br_i (fun hb => ⟨by rw [hno (by rw [le_not hb]; rfl)], rfl⟩) (fun hb => ?_)
    rw [le_yes hb, Bool.true_and] at ht hno
    refine br_i (fun hx => ⟨by rw [hno (by rw [in_lo hx]; rfl)], rfl⟩) (fun hx => br_i (fun hy => ⟨by rw [hno (by rw [in_hi hy]; rfl)], rfl⟩) (fun hy => ?_))
    rw [in_ok hx hy, Bool.true_and] at ht hno
    refine ⟨_, call_p (enters_of Tryz.func15 (by kernel_rfl) rfl) hi2 rfl ?_⟩
    refine br_i (fun hb => ⟨by rw [hno (le_not hb)], rfl⟩) (fun hb => ⟨⟨by trivial, trivial⟩, by trivial, hds.length - (j3 + 1), by omega, j3 + 1, by omega, by trivial, ?_, ?_⟩)
    · rw [wrap_id (by omega) (by omega)]; simp
    · rw [ht, hall3, le_yes hb]; rfl
  · have hge3 : ¬ j3 < hds.length := by simpa using hge3
    rw [List.take_of_length_le (by omega)] at hall3
    exact ⟨by rw [hall3], rfl⟩
end Go.Proofs.YtcmnjodjebcapaaGreat.Deep

namespace Go.Proofs.YtcmnjodjebcapaaGreat.Deep
open Go.RowKit
set_option linter.unusedVariables false
def I3 : TI := ⟨true, 1, false, false, 0, false, false, [], false, some [.con (.int .i64 0)], 8, none, some .i64⟩
theorem T3 : T 3 = some I3 := by kernel_rfl
def I2 : TI := ⟨true, 1, false, false, 0, false, false, [], false, some [.con (.int .i64 0)], 8, none, some .i64⟩
theorem T2 : T 2 = some I2 := by kernel_rfl
def I5 : TI := ⟨true, 1, false, false, 0, false, false, [], false, some [.con (.int .u8 0)], 1, none, some .u8⟩
def I9 : TI := ⟨true, 1, false, false, 0, true, false, [], false, some [.con (.string ⟨#[]⟩)], 16, none, none⟩
theorem T9 : T 9 = some I9 := by kernel_rfl
def I22 : TI := ⟨true, 1, false, true, 70, false, false, [], false, some [.con (.slice none 0 0)], 24, none, none⟩
theorem T22 : T 22 = some I22 := by kernel_rfl
def I23 : TI := ⟨true, 1, false, true, 75, false, false, [], false, some [.con (.slice none 0 0)], 24, none, none⟩
theorem T23 : T 23 = some I23 := by kernel_rfl
def I24 : TI := ⟨true, 1, false, true, 26, false, false, [], false, some [.con (.slice none 0 0)], 24, none, none⟩
theorem T24 : T 24 = some I24 := by kernel_rfl
def I26 : TI := ⟨true, 3, true, false, 0, false, false, [(0, 3), (1, 9), (2, 24)], true, some [.con (.int .i64 0), .con (.string ⟨#[]⟩), .con (.slice none 0 0)], 48, none, none⟩
theorem T26 : T 26 = some I26 := by kernel_rfl
def I28 : TI := ⟨true, 2, true, false, 0, false, false, [(0, 3), (1, 3)], true, some [.con (.int .i64 0), .con (.int .i64 0)], 16, none, none⟩
theorem T28 : T 28 = some I28 := by kernel_rfl
def I29 : TI := ⟨true, 1, false, true, 5, false, false, [], false, some [.con (.slice none 0 0)], 24, none, none⟩
theorem T29 : T 29 = some I29 := by kernel_rfl
def I30 : TI := ⟨true, 1, false, true, 33, false, false, [], false, some [.con (.slice none 0 0)], 24, none, none⟩
theorem T30 : T 30 = some I30 := by kernel_rfl
def I31 : TI := ⟨true, 1, false, true, 59, false, false, [], false, some [.con (.slice none 0 0)], 24, none, none⟩
theorem T31 : T 31 = some I31 := by kernel_rfl
def I33 : TI := ⟨true, 8, true, false, 0, false, false, [(0, 3), (1, 28), (3, 2), (4, 29), (5, 9), (6, 30), (7, 31)], true, some [.con (.int .i64 0), .con (.int .i64 0), .con (.int .i64 0), .con (.int .i64 0), .con (.slice none 0 0), .con (.string ⟨#[]⟩), .con (.slice none 0 0), .con (.slice none 0 0)], 120, none, none⟩
theorem T33 : T 33 = some I33 := by kernel_rfl
def I34 : TI := ⟨true, 1, false, true, 81, false, false, [], false, some [.con (.slice none 0 0)], 24, none, none⟩
theorem T34 : T 34 = some I34 := by kernel_rfl
def I36 : TI := ⟨true, 17, true, false, 0, false, false, [(0, 22), (1, 23), (2, 3), (3, 3), (4, 26), (7, 3), (8, 33), (16, 34)], true, some [.con (.slice none 0 0), .con (.slice none 0 0), .con (.int .i64 0), .con (.int .i64 0), .con (.int .i64 0), .con (.string ⟨#[]⟩), .con (.slice none 0 0), .con (.int .i64 0), .con (.int .i64 0), .con (.int .i64 0), .con (.int .i64 0), .con (.int .i64 0), .con (.slice none 0 0), .con (.string ⟨#[]⟩), .con (.slice none 0 0), .con (.slice none 0 0), .con (.slice none 0 0)], 264, none, none⟩
theorem T36 : T 36 = some I36 := by kernel_rfl
def I37 : TI := ⟨true, 1, false, true, 39, false, false, [], false, some [.con (.slice none 0 0)], 24, none, none⟩
theorem T37 : T 37 = some I37 := by kernel_rfl
def I39 : TI := ⟨true, 6, true, false, 0, false, false, [(0, 3), (1, 28), (3, 9), (4, 2), (5, 37)], true, some [.con (.int .i64 0), .con (.int .i64 0), .con (.int .i64 0), .con (.string ⟨#[]⟩), .con (.int .i64 0), .con (.slice none 0 0)], 72, none, none⟩
theorem T39 : T 39 = some I39 := by kernel_rfl
def I59 : TI := ⟨true, 14, true, false, 0, false, false, [(0, 39), (6, 33)], true, some [.con (.int .i64 0), .con (.int .i64 0), .con (.int .i64 0), .con (.string ⟨#[]⟩), .con (.int .i64 0), .con (.slice none 0 0), .con (.int .i64 0), .con (.int .i64 0), .con (.int .i64 0), .con (.int .i64 0), .con (.slice none 0 0), .con (.string ⟨#[]⟩), .con (.slice none 0 0), .con (.slice none 0 0)], 192, none, none⟩
theorem T59 : T 59 = some I59 := by kernel_rfl
def I70 : TI := ⟨true, 4, true, false, 0, false, false, [(0, 28), (2, 9), (3, 68)], true, some [.con (.int .i64 0), .con (.int .i64 0), .con (.string ⟨#[]⟩), .con (.slice none 0 0)], 56, none, none⟩
theorem T70 : T 70 = some I70 := by kernel_rfl
def I75 : TI := ⟨true, 15, true, false, 0, false, false, [(0, 28), (2, 9), (3, 73), (4, 26), (7, 33)], true, some [.con (.int .i64 0), .con (.int .i64 0), .con (.string ⟨#[]⟩), .con (.slice none 0 0), .con (.int .i64 0), .con (.string ⟨#[]⟩), .con (.slice none 0 0), .con (.int .i64 0), .con (.int .i64 0), .con (.int .i64 0), .con (.int .i64 0), .con (.slice none 0 0), .con (.string ⟨#[]⟩), .con (.slice none 0 0), .con (.slice none 0 0)], 224, none, none⟩
theorem T75 : T 75 = some I75 := by kernel_rfl
def I81 : TI := ⟨true, 16, true, false, 0, false, false, [(0, 28), (2, 9), (3, 79), (7, 3), (8, 33)], true, some [.con (.int .i64 0), .con (.int .i64 0), .con (.string ⟨#[]⟩), .con (.string ⟨#[]⟩), .con (.int .i64 0), .con (.string ⟨#[]⟩), .con (.slice none 0 0), .con (.int .i64 0), .con (.int .i64 0), .con (.int .i64 0), .con (.int .i64 0), .con (.int .i64 0), .con (.slice none 0 0), .con (.string ⟨#[]⟩), .con (.slice none 0 0), .con (.slice none 0 0)], 224, none, none⟩
theorem T81 : T 81 = some I81 := by kernel_rfl
def I79 : TI := ⟨true, 4, true, false, 0, false, false, [(0, 9), (1, 26)], true, some [.con (.string ⟨#[]⟩), .con (.int .i64 0), .con (.string ⟨#[]⟩), .con (.slice none 0 0)], 64, none, none⟩
theorem T79 : T 79 = some I79 := by kernel_rfl
def I119 : TI := ⟨true, 2, true, false, 0, false, false, [(0, 9), (1, 24)], true, some [.con (.string ⟨#[]⟩), .con (.slice none 0 0)], 40, none, none⟩
theorem T119 : T 119 = some I119 := by kernel_rfl
def I68 : TI := ⟨true, 1, false, true, 119, false, false, [], false, some [.con (.slice none 0 0)], 24, none, none⟩
theorem T68 : T 68 = some I68 := by kernel_rfl
def I73 : TI := ⟨true, 1, false, true, 79, false, false, [], false, some [.con (.slice none 0 0)], 24, none, none⟩
theorem T73 : T 73 = some I73 := by kernel_rfl
theorem u3 : Tryz.prog.underlying 3 = some (.int .i64) := by kernel_rfl
theorem u2 : Tryz.prog.underlying 2 = some (.int .i64) := by kernel_rfl
theorem u5 : Tryz.prog.underlying 5 = some (.int .u8) := by kernel_rfl
theorem u9 : Tryz.prog.underlying 9 = some .string := by kernel_rfl
theorem u24 : Tryz.prog.underlying 24 = some (.slice 26) := by kernel_rfl
theorem u37 : Tryz.prog.underlying 37 = some (.slice 39) := by kernel_rfl
theorem u29 : Tryz.prog.underlying 29 = some (.slice 5) := by kernel_rfl
theorem u30 : Tryz.prog.underlying 30 = some (.slice 33) := by kernel_rfl
theorem u31 : Tryz.prog.underlying 31 = some (.slice 59) := by kernel_rfl
theorem u22 : Tryz.prog.underlying 22 = some (.slice 70) := by kernel_rfl
theorem u23 : Tryz.prog.underlying 23 = some (.slice 75) := by kernel_rfl
theorem u34 : Tryz.prog.underlying 34 = some (.slice 81) := by kernel_rfl
theorem u68 : Tryz.prog.underlying 68 = some (.slice 119) := by kernel_rfl
theorem u73 : Tryz.prog.underlying 73 = some (.slice 79) := by kernel_rfl
theorem z26 : 0 < Tryz.prog.cellsOf 26 := by rw [show Tryz.prog.cellsOf 26 = 3 by kernel_rfl]; decide
theorem z39 : 0 < Tryz.prog.cellsOf 39 := by rw [show Tryz.prog.cellsOf 39 = 6 by kernel_rfl]; decide
theorem z5 : 0 < Tryz.prog.cellsOf 5 := by rw [show Tryz.prog.cellsOf 5 = 1 by kernel_rfl]; decide
theorem z33 : 0 < Tryz.prog.cellsOf 33 := by rw [show Tryz.prog.cellsOf 33 = 8 by kernel_rfl]; decide
theorem z59 : 0 < Tryz.prog.cellsOf 59 := by rw [show Tryz.prog.cellsOf 59 = 14 by kernel_rfl]; decide
theorem z70 : 0 < Tryz.prog.cellsOf 70 := by rw [show Tryz.prog.cellsOf 70 = 4 by kernel_rfl]; decide
theorem z75 : 0 < Tryz.prog.cellsOf 75 := by rw [show Tryz.prog.cellsOf 75 = 15 by kernel_rfl]; decide
theorem z81 : 0 < Tryz.prog.cellsOf 81 := by rw [show Tryz.prog.cellsOf 81 = 16 by kernel_rfl]; decide
theorem z119 : 0 < Tryz.prog.cellsOf 119 := by rw [show Tryz.prog.cellsOf 119 = 2 by kernel_rfl]; decide
theorem z79 : 0 < Tryz.prog.cellsOf 79 := by rw [show Tryz.prog.cellsOf 79 = 4 by kernel_rfl]; decide
theorem CR.last {w : World} {cs : List Value} {o n : Nat} {p : List PV} (h : CR w ((cs.drop o).take n) p) (hl : cs.length = o + n) : CR w (cs.drop o) p := by
  rwa [List.take_of_length_le (by rw [List.length_drop]; omega)] at h
theorem tyPs_map : ∀ ts : List Ty, tyPs ts = ts.map tyP
  | [] => rfl
  | t :: ts => by rw [tyPs, tyPs_map ts]; rfl
theorem ptPs_map : ∀ ts : List Pt, ptPs ts = ts.map ptP
  | [] => rfl
  | t :: ts => by rw [ptPs, ptPs_map ts]; rfl
theorem exPs_map : ∀ ts : List Ex, exPs ts = ts.map exP
  | [] => rfl
  | t :: ts => by rw [exPs, exPs_map ts]; rfl
def arP (a : Pt × Ex) : List PV := ptP a.1 ++ exP a.2
theorem arPs_map : ∀ l : List (Pt × Ex), arPs (l.map Prod.snd) (l.map Prod.fst) = l.map arP
  | [] => rfl
  | a :: l => by rw [List.map_cons, List.map_cons, arPs, arPs_map l]; rfl
theorem wfExs_of : ∀ es : List Ex, (∀ e ∈ es, wfEx e) → wfExs es
  | [], _ => trivial
  | e :: es, h => by rw [wfExs]; exact ⟨h e (by simp), wfExs_of es (fun x hx => h x (by simp [hx]))⟩
section
variable {H : Type} {enc : TypeId × Value → H} {w : World} {spare : Nat → Bool} {held : Bool}
theorem op_i {P : Program} {t : TypeId} {k : IntKind} (u : P.underlying t = some (.int k)) {fuel : Nat} {cs : List Value} {x : DataW H × List MemPlace} (h : DataW.trod enc P w 0 spare held fuel t cs = some x) : ∃ n : Int, (Lit.int k n).wf = true ∧ CR w cs [.con (.int k n)] := by
  obtain ⟨n, rfl, _, hw⟩ := DataW.trod_int u h
  exact ⟨n, hw, .int _ _ _⟩
theorem op_s {P : Program} {t : TypeId} (u : P.underlying t = some .string) {fuel : Nat} {cs : List Value} {x : DataW H × List MemPlace} (h : DataW.trod enc P w 0 spare held fuel t cs = some x) : ∃ s : ByteArray, s.size ≤ maxLen ∧ CR w cs [.con (.string s)] := by
  obtain ⟨s, rfl, _, hs⟩ := DataW.trod_string u h
  exact ⟨s, hs, .str _ _⟩
theorem op_pos {fuel : Nat} {cs : List Value} {x : DataW H × List MemPlace} (h : DataW.trod enc Tryz.prog w 0 spare held fuel 28 cs = some x) : ∃ l c : Int, CR w cs [.con (.int .i64 l), .con (.int .i64 c)] := by
  obtain ⟨n, hn, hl, hf⟩ := open_flds tok T28 rfl h
  obtain ⟨y0, h0⟩ := hf 0 0 3 I3 rfl T3
  obtain ⟨y1, h1⟩ := hf 1 1 3 I3 rfl T3
  obtain ⟨l, _, c0⟩ := op_i u3 h0
  obtain ⟨c, _, c1⟩ := op_i u3 h1
  exact ⟨l, c, CR.seg (o := 0) c0 (CR.last c1 hl)⟩
theorem op_by {fuel : Nat} {cs : List Value} {x : DataW H × List MemPlace} (h : DataW.trod enc Tryz.prog w 0 spare held fuel 29 cs = some x) : ∃ b : List UInt8, CR w cs [.sl (byP b)] := by
  obtain ⟨b, _, c⟩ := open_slice (fun x : UInt8 => [.con (.int .u8 (x.toNat : Int))]) (fun _ => True) u29 z5 h (fun m us y hm _ hu => by
    obtain ⟨n, hw, c⟩ := op_i u5 hu
    have hb : 0 ≤ n ∧ n ≤ 255 := by
      simp only [Lit.wf, Bool.and_eq_true, decide_eq_true_eq] at hw
      exact hw
    refine ⟨UInt8.ofNat n.toNat, trivial, ?_⟩
    rwa [show ((UInt8.ofNat n.toNat).toNat : Int) = n by rw [UInt8.toNat_ofNat']; omega])
  exact ⟨b, c⟩
theorem open_ty (fuel : Nat) : ∀ (cs : List Value) (x : DataW H × List MemPlace), DataW.trod enc Tryz.prog w 0 spare held fuel 26 cs = some x → ∃ a : Ty, CR w cs (tyP a) := by
  induction fuel using Nat.strongRecOn with
  | _ fuel ih =>
  intro cs x h
  obtain ⟨n, hn, hl, hf⟩ := open_flds tok T26 rfl h
  obtain ⟨y0, h0⟩ := hf 0 0 3 I3 rfl T3
  obtain ⟨k, _, c0⟩ := op_i u3 h0
  obtain ⟨y1, h1⟩ := hf 1 1 9 I9 rfl T9
  obtain ⟨s, _, c1⟩ := op_s u9 h1
  obtain ⟨y2, h2⟩ := hf 2 2 24 I24 rfl T24
  obtain ⟨ps, _, c2⟩ := open_slice tyP (fun _ => True) u24 z26 h2 (fun m us y hm _ hu => by obtain ⟨a, ha⟩ := ih m (by omega) us y hu; exact ⟨a, trivial, ha⟩)
  refine ⟨.mk k s ps, ?_⟩
  rw [tyP, tyPs_map]
  have hz := CR.seg (o := 0) c0 (CR.seg c1 (CR.last c2 hl))
  exact hz
theorem open_pt (fuel : Nat) : ∀ (cs : List Value) (x : DataW H × List MemPlace), DataW.trod enc Tryz.prog w 0 spare held fuel 39 cs = some x → ∃ a : Pt, CR w cs (ptP a) := by
  induction fuel using Nat.strongRecOn with
  | _ fuel ih =>
  intro cs x h
  obtain ⟨n, hn, hl, hf⟩ := open_flds tok T39 rfl h
  obtain ⟨y0, h0⟩ := hf 0 0 3 I3 rfl T3
  obtain ⟨k, _, c0⟩ := op_i u3 h0
  obtain ⟨y1, h1⟩ := hf 1 1 28 I28 rfl T28
  obtain ⟨l, c, c1⟩ := op_pos h1
  obtain ⟨y2, h2⟩ := hf 2 3 9 I9 rfl T9
  obtain ⟨s, _, c2⟩ := op_s u9 h2
  obtain ⟨y3, h3⟩ := hf 3 4 2 I2 rfl T2
  obtain ⟨m, _, c3⟩ := op_i u2 h3
  obtain ⟨y4, h4⟩ := hf 4 5 37 I37 rfl T37
  obtain ⟨ps, _, c4⟩ := open_slice ptP (fun _ => True) u37 z39 h4 (fun m us y hm _ hu => by obtain ⟨a, ha⟩ := ih m (by omega) us y hu; exact ⟨a, trivial, ha⟩)
  refine ⟨.mk k l c s m ps, ?_⟩
  rw [ptP, ptPs_map]
  have hz := CR.seg (o := 0) c0 (CR.seg c1 (CR.seg c2 (CR.seg c3 (CR.last c4 hl))))
  exact hz
theorem open_ex (fuel : Nat) : ∀ (cs : List Value) (x : DataW H × List MemPlace), DataW.trod enc Tryz.prog w 0 spare held fuel 33 cs = some x → ∃ a : Ex, wfEx a ∧ CR w cs (exP a) := by
  induction fuel using Nat.strongRecOn with
  | _ fuel ih =>
  intro cs x h
  obtain ⟨n, hn, hl, hf⟩ := open_flds tok T33 rfl h
  obtain ⟨y0, h0⟩ := hf 0 0 3 I3 rfl T3
  obtain ⟨k, _, c0⟩ := op_i u3 h0
  obtain ⟨y1, h1⟩ := hf 1 1 28 I28 rfl T28
  obtain ⟨l, c, c1⟩ := op_pos h1
  obtain ⟨y2, h2⟩ := hf 2 3 2 I2 rfl T2
  obtain ⟨m, _, c2⟩ := op_i u2 h2
  obtain ⟨y3, h3⟩ := hf 3 4 29 I29 rfl T29
  obtain ⟨b, c3⟩ := op_by h3
  obtain ⟨y4, h4⟩ := hf 4 5 9 I9 rfl T9
  obtain ⟨s, _, c4⟩ := op_s u9 h4
  obtain ⟨y5, h5⟩ := hf 5 6 30 I30 rfl T30
  obtain ⟨ks, hks, c5⟩ := open_slice exP wfEx u30 z33 h5 (fun m us y hm _ hu => ih m (by omega) us y hu)
  obtain ⟨y6, h6⟩ := hf 6 7 31 I31 rfl T31
  obtain ⟨ars, har, c6⟩ := open_slice arP (fun a => wfEx a.2) u31 z59 h6 (fun m us y hm _ hu => by
    obtain ⟨n', hn', hl', hf'⟩ := open_flds tok T59 rfl hu
    obtain ⟨y0', h0'⟩ := hf' 0 0 39 I39 rfl T39
    obtain ⟨y1', h1'⟩ := hf' 1 6 33 I33 rfl T33
    obtain ⟨p, c0'⟩ := open_pt n' _ _ h0'
    obtain ⟨e, he, c1'⟩ := ih n' (by omega) _ _ h1'
    exact ⟨(p, e), he, CR.seg (o := 0) c0' (CR.last c1' hl')⟩)
  refine ⟨.mk k l c m b s ks (ars.map Prod.fst) (ars.map Prod.snd), by rw [wfEx]; exact ⟨by simp, wfExs_of ks hks, wfExs_of _ (fun e he => by obtain ⟨a, ha, rfl⟩ := List.mem_map.1 he; exact har a ha)⟩, ?_⟩
  rw [exP, exPs_map, arPs_map]
  have hz := CR.seg (o := 0) c0 (CR.seg c1 (CR.seg c2 (CR.seg c3 (CR.seg c4 (CR.seg c5 (CR.last c6 hl))))))
  exact hz
theorem open_co {fuel : Nat} (cs : List Value) (x : DataW H × List MemPlace) (h : DataW.trod enc Tryz.prog w 0 spare held fuel 119 cs = some x) : ∃ a : Co, CR w cs (coP a) := by
  obtain ⟨n, hn, hl, hf⟩ := open_flds tok T119 rfl h
  obtain ⟨y0, h0⟩ := hf 0 0 9 I9 rfl T9
  obtain ⟨s, _, c0⟩ := op_s u9 h0
  obtain ⟨y1, h1⟩ := hf 1 1 24 I24 rfl T24
  obtain ⟨ps, _, c1⟩ := open_slice tyP (fun _ => True) u24 z26 h1 (fun m us y hm _ hu => by obtain ⟨a, ha⟩ := open_ty _ us y hu; exact ⟨a, trivial, ha⟩)
  refine ⟨⟨s, ps⟩, ?_⟩
  unfold coP; rw [tyPs_map]
  have hz := CR.seg (o := 0) c0 (CR.last c1 hl)
  exact hz
theorem open_da {fuel : Nat} (cs : List Value) (x : DataW H × List MemPlace) (h : DataW.trod enc Tryz.prog w 0 spare held fuel 70 cs = some x) : ∃ a : Da, CR w cs (daP a) := by
  obtain ⟨n, hn, hl, hf⟩ := open_flds tok T70 rfl h
  obtain ⟨y0, h0⟩ := hf 0 0 28 I28 rfl T28
  obtain ⟨l, c, c0⟩ := op_pos h0
  obtain ⟨y1, h1⟩ := hf 1 2 9 I9 rfl T9
  obtain ⟨s, _, c1⟩ := op_s u9 h1
  obtain ⟨y2, h2⟩ := hf 2 3 68 I68 rfl T68
  obtain ⟨ps, _, c2⟩ := open_slice coP (fun _ => True) u68 z119 h2 (fun m us y hm _ hu => by obtain ⟨a, ha⟩ := open_co us y hu; exact ⟨a, trivial, ha⟩)
  refine ⟨⟨l, c, s, ps⟩, ?_⟩
  have hz := CR.seg (o := 0) c0 (CR.seg c1 (CR.last c2 hl))
  exact hz
theorem open_pa {fuel : Nat} (cs : List Value) (x : DataW H × List MemPlace) (h : DataW.trod enc Tryz.prog w 0 spare held fuel 79 cs = some x) : ∃ a : Pa, CR w cs (paP a) := by
  obtain ⟨n, hn, hl, hf⟩ := open_flds tok T79 rfl h
  obtain ⟨y0, h0⟩ := hf 0 0 9 I9 rfl T9
  obtain ⟨s, _, c0⟩ := op_s u9 h0
  obtain ⟨y1, h1⟩ := hf 1 1 26 I26 rfl T26
  obtain ⟨ty, c1⟩ := open_ty _ _ _ h1
  refine ⟨⟨s, ty⟩, ?_⟩
  have hz := CR.seg (o := 0) c0 (CR.last c1 hl)
  exact hz
theorem open_fu {fuel : Nat} (cs : List Value) (x : DataW H × List MemPlace) (h : DataW.trod enc Tryz.prog w 0 spare held fuel 75 cs = some x) : ∃ a : Fu, (fun f => wfEx f.body) a ∧ CR w cs (fuP a) := by
  obtain ⟨n, hn, hl, hf⟩ := open_flds tok T75 rfl h
  obtain ⟨y0, h0⟩ := hf 0 0 28 I28 rfl T28
  obtain ⟨l, c, c0⟩ := op_pos h0
  obtain ⟨y1, h1⟩ := hf 1 2 9 I9 rfl T9
  obtain ⟨s, _, c1⟩ := op_s u9 h1
  obtain ⟨y2, h2⟩ := hf 2 3 73 I73 rfl T73
  obtain ⟨ps, _, c2⟩ := open_slice paP (fun _ => True) u73 z79 h2 (fun m us y hm _ hu => by obtain ⟨a, ha⟩ := open_pa us y hu; exact ⟨a, trivial, ha⟩)
  obtain ⟨y3, h3⟩ := hf 3 4 26 I26 rfl T26
  obtain ⟨ty, c3⟩ := open_ty _ _ _ h3
  obtain ⟨y4, h4⟩ := hf 4 7 33 I33 rfl T33
  obtain ⟨e, he, c4⟩ := open_ex _ _ _ h4
  refine ⟨⟨l, c, s, ps, ty, e⟩, he, ?_⟩
  have hz := CR.seg (o := 0) c0 (CR.seg c1 (CR.seg c2 (CR.seg c3 (CR.last c4 hl))))
  exact hz
theorem open_ha {fuel : Nat} (cs : List Value) (x : DataW H × List MemPlace) (h : DataW.trod enc Tryz.prog w 0 spare held fuel 81 cs = some x) : ∃ a : Ha, (fun f => wfEx f.body) a ∧ CR w cs (haP a) := by
  obtain ⟨n, hn, hl, hf⟩ := open_flds tok T81 rfl h
  obtain ⟨y0, h0⟩ := hf 0 0 28 I28 rfl T28
  obtain ⟨l, c, c0⟩ := op_pos h0
  obtain ⟨y1, h1⟩ := hf 1 2 9 I9 rfl T9
  obtain ⟨s, _, c1⟩ := op_s u9 h1
  obtain ⟨y2, h2⟩ := hf 2 3 79 I79 rfl T79
  obtain ⟨pa, c2⟩ := open_pa _ _ h2
  obtain ⟨y3, h3⟩ := hf 3 7 3 I3 rfl T3
  obtain ⟨k, _, c3⟩ := op_i u3 h3
  obtain ⟨y4, h4⟩ := hf 4 8 33 I33 rfl T33
  obtain ⟨e, he, c4⟩ := open_ex _ _ _ h4
  refine ⟨⟨l, c, s, pa, k, e⟩, he, ?_⟩
  have hz := CR.seg (o := 0) c0 (CR.seg c1 (CR.seg c2 (CR.seg c3 (CR.last c4 hl))))
  exact hz
theorem open_pr {fuel : Nat} (cs : List Value) (x : DataW H × List MemPlace) (h : DataW.trod enc Tryz.prog w 0 spare held fuel 36 cs = some x) : ∃ a : Pr, wfPr a ∧ CR w cs (prP a) := by
  obtain ⟨n, hn, hl, hf⟩ := open_flds tok T36 rfl h
  obtain ⟨y0, h0⟩ := hf 0 0 22 I22 rfl T22
  obtain ⟨ds, _, c0⟩ := open_slice daP (fun _ => True) u22 z70 h0 (fun m us y hm _ hu => by obtain ⟨a, ha⟩ := open_da us y hu; exact ⟨a, trivial, ha⟩)
  obtain ⟨y1, h1⟩ := hf 1 1 23 I23 rfl T23
  obtain ⟨fs, hfs, c1⟩ := open_slice fuP (fun f => wfEx f.body) u23 z75 h1 (fun m us y hm _ hu => open_fu us y hu)
  obtain ⟨y2, h2⟩ := hf 2 2 3 I3 rfl T3
  obtain ⟨q, _, c2⟩ := op_i u3 h2
  obtain ⟨y3, h3⟩ := hf 3 3 3 I3 rfl T3
  obtain ⟨tm, _, c3⟩ := op_i u3 h3
  obtain ⟨y4, h4⟩ := hf 4 4 26 I26 rfl T26
  obtain ⟨ty, c4⟩ := open_ty _ _ _ h4
  obtain ⟨y5, h5⟩ := hf 5 7 3 I3 rfl T3
  obtain ⟨cp, _, c5⟩ := op_i u3 h5
  obtain ⟨y6, h6⟩ := hf 6 8 33 I33 rfl T33
  obtain ⟨e, he, c6⟩ := open_ex _ _ _ h6
  obtain ⟨y7, h7⟩ := hf 7 16 34 I34 rfl T34
  obtain ⟨hs, hhs, c7⟩ := open_slice haP (fun f => wfEx f.body) u34 z81 h7 (fun m us y hm _ hu => open_ha us y hu)
  refine ⟨⟨ds, fs, q, tm, ty, cp, e, hs⟩, ⟨hfs, hhs, he⟩, ?_⟩
  have hz := CR.seg (o := 0) c0 (CR.seg c1 (CR.seg c2 (CR.seg c3 (CR.seg c4 (CR.seg c5 (CR.seg c6 (CR.last c7 hl)))))))
  exact hz
end
theorem CR.agg {w : World} {vs : Array Value} {ps : List PV} (h : CR w vs.toList ps) : Rep (blockCells w) (fun _ => ⟨0, 0⟩) w 0 (.agg vs) (.agg ps) := by
  have := Rep.agg (G := blockCells w) (m := fun _ => ⟨0, 0⟩) (w := w) 0 vs.toList ps h.len h.rep
  simpa using this
end Go.Proofs.YtcmnjodjebcapaaGreat.Deep

namespace Go.Proofs.YtcmnjodjebcapaaGreat.Deep
open Go.ChangeShapes Go.WideShapes Go.ChangeAt Go.RowKit
set_option linter.unusedVariables false
theorem args_again {H : Type} {enc : TypeId × Value → H} {P : Program} {W W' : World} (hl : laidOutB P = true) (hb : Below W.heap.size W W') : ∀ (ts : List TypeId), (∀ t ∈ ts, P.readableRec t = true ∧ t < P.types.size) → ∀ (vs : List Value) (ds : List (DataW H)) (ps : List MemPlace),
    DataW.TrodAll enc P W 0 (fun _ => true) true ts vs ds ps → (∀ x ∈ ps, x.block < W.heap.size) → ∀ sp : Nat → Bool, (∀ x ∈ ps, sp x.block = true) → DataW.TrodAll enc P W' 0 sp true ts vs ds ps := by
  intro ts
  induction ts with
  | nil => intro _ vs ds ps h _ sp _; obtain ⟨rfl, rfl, rfl⟩ := trodAll_nil h; exact trodAll_mk0
  | cons t ts ih =>
    intro ht vs ds ps h hlt sp hsp
    obtain ⟨v, vs1, d, ds1, a, b, rfl, rfl, rfl, h1, h2⟩ := trodAll_cons h
    have h0 := ht t (by simp)
    exact trodAll_cons_mk (WideElems.Trod_stays hl h0.1 h0.2 h1 (fun x hx => hb.same (hlt x (List.mem_append_left _ hx))) (fun x hx => hsp x (List.mem_append_left _ hx)))
      (ih (fun t h => ht t (by simp [h])) _ _ _ h2 (fun x hx => hlt x (List.mem_append_right _ hx)) sp (fun x hx => hsp x (List.mem_append_right _ hx)))
theorem post_law {H : Type} {enc : TypeId × Value → H} {P : Program} {f : Func} {s : ChangeSpec} {apart fresh handsOn : Bool} {W W' : World} {args : Array Value} {v : Value} {ds gs : List (DataW H)} {before pa pv : List MemPlace}
    (hW : DataW.Whole enc P f.params.toList s.vars apart W args.toList ds gs before)
    (hres : ∀ (b : Nat) (sp : Nat → Bool) (hd : Bool), DataW.TrodAll enc P W' b sp hd f.resultTypes.toList (v.resultList f.resultTypes.size) (s.fn H (ds ++ gs)).results [])
    (hargs : ∀ sp : Nat → Bool, (∀ p ∈ before, sp p.block = true) → DataW.TrodAll enc P W' 0 sp true f.params.toList args.toList (s.fn H (ds ++ gs)).args pa)
    (hvars : ∀ sp : Nat → Bool, (∀ p ∈ before, sp p.block = true) → DataW.TrodVars enc P W' sp s.vars (s.fn H (ds ++ gs)).vars pv)
    (hps : before = pa ++ pv) (hb : Below W.heap.size W W') : s.post enc P f apart fresh handsOn false W args v W' := by
  have hold : ∀ p ∈ before, (fun b => decide (b < W.heap.size)) p.block = true := fun p hp => by simpa using hW.lt p hp
  exact ⟨ds, gs, before, [], pa, pv, hW, hres _ _ _, hargs _ hold, hvars _ hold, World.keptBut_mono (fun p hp => ⟨hp, Or.inr (List.mem_append.1 (hps ▸ hp))⟩) (hb.frame (· ∈ before)), fun h => by cases h⟩
theorem struct_of {P : Program} {T : TypeId → Option TI} (hT : Tok P T) {t : TypeId} {ti : TI} (hi : T t = some ti) (hst : ti.isStruct = true) : ∃ fs, P.underlying t = some (.struct fs) := by
  obtain ⟨h1, h2⟩ := hT t ti hi
  obtain ⟨d, hd⟩ := Option.isSome_iff_exists.1 h2
  subst h1
  unfold infoP at hst
  dsimp only at hst
  rw [hd] at hst
  cases d <;> first | exact ⟨_, hd⟩ | (exact absurd hst Bool.false_ne_true)
theorem open_arg {P : Program} {T : TypeId → Option TI} (hT : Tok P T) {α : Type} {H : Type} {enc : TypeId × Value → H} {M : α → Prop} {view : α → List PV} {t : TypeId} {ti : TI} (hi : T t = some ti) (hst : ti.isStruct = true) {W : World} {r : Reach} {b0 : Nat} {v : Value} {d : DataW H} {p : List MemPlace} (hv : Value.okWide P W r b0 t v)
    (h : DataW.Trod enc P W 0 (fun _ => true) true t v d p) (ho : ∀ (fuel : Nat) (cs : List Value) (x : DataW H × List MemPlace), DataW.trod enc P W 0 (fun _ => true) true fuel t cs = some x → ∃ a : α, M a ∧ CR W cs (view a)) :
    ∃ a : α, M a ∧ Rep (blockCells W) (fun _ => ⟨0, 0⟩) W 0 v (.agg (view a)) := by
  obtain ⟨fs, hfs⟩ := struct_of hT hi hst
  obtain ⟨cs, rfl, _⟩ := okWide_struct hfs hv
  obtain ⟨fuel, h⟩ := h
  obtain ⟨a, ha, hc⟩ := ho _ _ _ h
  exact ⟨a, ha, hc.agg⟩
theorem hs_start (P : Program) (W : World) : HS P (blockCells W) (fun _ => ⟨0, 0⟩) W [] := ⟨fun b hb => absurd hb (Nat.not_lt_zero _), fun b _ hb => absurd hb (Nat.not_lt_zero _), block_old⟩
theorem law_calls {f : FuncId} {ps : List PV} (h : PCalls Tryz.prog f ps (fun r => r = .con (.bool true))) {W : World} {vs : Array Value} (ha : Args (blockCells W) (fun _ => ⟨0, 0⟩) W 0 vs ps) : Calls Tryz.prog f vs W fun e W' => e = .returned (.bool true) ∧ Below W.heap.size W W' :=
  (h (blockCells W) (fun _ => ⟨0, 0⟩) W vs (hs_start _ W) ha).mono fun e W' ⟨v, r, h', G', m', he, ⟨hr, _⟩, hrep, _, hg⟩ => by
    subst hr
    obtain rfl := hrep.con_eq
    exact ⟨he, hg.below⟩
theorem args_list {w : World} {G : Nat → Nat} {m : Nat → Pl} {n : Nat} : ∀ (vs : List Value) (ps : List PV), vs.length = ps.length → (∀ i (h : i < vs.length) (h2 : i < ps.length), Rep G m w n vs[i] ps[i]) → Args G m w n vs.toArray ps := fun vs ps hl h => by
  refine ⟨by simpa using hl, fun i hi => ?_⟩
  have := h i (by omega) hi
  simp only [List.getD_eq_getElem?_getD, List.getElem?_eq_getElem hi, Option.getD_some]
  simpa [Array.getD, hl, hi] using this
end Go.Proofs.YtcmnjodjebcapaaGreat.Deep

namespace Go.Proofs.YtcmnjodjebcapaaGreat.Deep
open Go.RowKit
set_option linter.unusedVariables false
set_option linter.unusedSimpArgs false
def coT (c : Co) : Ty := .mk 0 c.name c.fields
def lightCos : List Co → Int → Int
  | [], l => l
  | c :: cs, l => if l < 0 then l else lightCos cs (lightTy (coT c) l)
def lightDas : List Da → Int → Int
  | [], l => l
  | d :: ds, l => if l < 0 then l else lightDas ds (lightCos d.cons (l - 1 - take20 d.name.size))
def lightPas : List Pa → Int → Int
  | [], l => l
  | p :: ps, l => if l < 0 then l else lightPas ps (lightTy p.ty (l - take20 p.name.size))
def lightFu (f : Fu) (l : Int) : Int := lightPas f.params (lightEx f.body (lightTy f.result (l - 1 - take20 f.name.size)))
def lightFus : List Fu → Int → Int
  | [], l => l
  | f :: fs, l => if l < 0 then l else lightFus fs (lightFu f l)
def lightHa (h : Ha) (l : Int) : Int := lightEx h.body (lightTy h.param.ty (l - 1 - take20 h.name.size - take20 h.param.name.size))
def lightHas : List Ha → Int → Int
  | [], l => l
  | h :: hs, l => if l < 0 then l else lightHas hs (lightHa h l)
def lightPr (p : Pr) (l : Int) : Int := lightHas p.hands (lightFus p.funs (lightDas p.datas (lightEx p.init (lightTy p.state l))))
theorem lightCos_neg (ts : List Co) (l : Int) (h : l < 0) : lightCos ts l = l := by cases ts <;> simp [lightCos, h]
theorem lightDas_neg (ts : List Da) (l : Int) (h : l < 0) : lightDas ts l = l := by cases ts <;> simp [lightDas, h]
theorem lightPas_neg (ts : List Pa) (l : Int) (h : l < 0) : lightPas ts l = l := by cases ts <;> simp [lightPas, h]
theorem lightFus_neg (ts : List Fu) (l : Int) (h : l < 0) : lightFus ts l = l := by cases ts <;> simp [lightFus, h]
theorem lightHas_neg (ts : List Ha) (l : Int) (h : l < 0) : lightHas ts l = l := by cases ts <;> simp [lightHas, h]
theorem lightCos_ok : ∀ (cs : List Co) (l : Int), lightCos cs l ≤ l ∧ (0 ≤ l → -1048577 ≤ lightCos cs l) ∧ (0 ≤ lightCos cs l → l ≤ 3000 → (cs.length : Int) ≤ l ∧ ∀ c ∈ cs, smallCo c)
  | [], l => by unfold lightCos; exact ⟨by omega, fun h => by omega, fun h _ => ⟨by simpa using h, by simp⟩⟩
  | c :: cs, l => by
    unfold lightCos
    split
    · exact ⟨by omega, fun h => by omega, fun h => by omega⟩
    · obtain ⟨a1, a2, a3, a4⟩ := lightTy_ok (coT c) l
      obtain ⟨b1, b2, b3⟩ := lightCos_ok cs (lightTy (coT c) l)
      refine ⟨by omega, fun h => ?_, fun h h3 => ?_⟩
      · by_cases hn : lightTy (coT c) l < 0
        · rw [lightCos_neg _ _ hn]; exact a2 h
        · exact b2 (by omega)
      · obtain ⟨c1, c2⟩ := b3 h (by omega)
        have hs := a4 h3 (by omega)
        unfold coT smallTy at hs
        refine ⟨by simp; omega, fun x hx => ?_⟩
        rcases List.mem_cons.1 hx with rfl | hx
        · exact hs
        · exact c2 x hx
theorem lightDas_ok : ∀ (cs : List Da) (l : Int), lightDas cs l ≤ l ∧ (0 ≤ l → -2097155 ≤ lightDas cs l) ∧ (0 ≤ lightDas cs l → l ≤ 3000 → (cs.length : Int) ≤ l ∧ ∀ c ∈ cs, smallDa c)
  | [], l => by unfold lightDas; exact ⟨by omega, fun h => by omega, fun h _ => ⟨by simpa using h, by simp⟩⟩
  | c :: cs, l => by
    unfold lightDas
    split
    · exact ⟨by omega, fun h => by omega, fun h => by omega⟩
    · have ht := take20_le c.name.size
      obtain ⟨a1, a2, a3⟩ := lightCos_ok c.cons (l - 1 - take20 c.name.size)
      obtain ⟨b1, b2, b3⟩ := lightDas_ok cs (lightCos c.cons (l - 1 - take20 c.name.size))
      refine ⟨by omega, fun h => ?_, fun h h3 => ?_⟩
      · by_cases hn : lightCos c.cons (l - 1 - take20 c.name.size) < 0
        · rw [lightDas_neg _ _ hn]
          by_cases hn2 : l - 1 - take20 c.name.size < 0
          · rw [lightCos_neg _ _ hn2]; omega
          · have := a2 (by omega); omega
        · exact b2 (by omega)
      · obtain ⟨c1, c2⟩ := b3 h (by omega)
        obtain ⟨d1, d2⟩ := a3 (by omega) (by omega)
        refine ⟨by simp; omega, fun x hx => ?_⟩
        rcases List.mem_cons.1 hx with rfl | hx
        · exact ⟨take20_small (by omega), by omega, d2⟩
        · exact c2 x hx
theorem lightPas_ok : ∀ (cs : List Pa) (l : Int), lightPas cs l ≤ l ∧ (0 ≤ l → -2097155 ≤ lightPas cs l) ∧ (0 ≤ lightPas cs l → l ≤ 3000 → (cs.length : Int) ≤ l ∧ ∀ c ∈ cs, smallPa c)
  | [], l => by unfold lightPas; exact ⟨by omega, fun h => by omega, fun h _ => ⟨by simpa using h, by simp⟩⟩
  | c :: cs, l => by
    unfold lightPas
    split
    · exact ⟨by omega, fun h => by omega, fun h => by omega⟩
    · have ht := take20_le c.name.size
      obtain ⟨a1, a2, a3, a4⟩ := lightTy_ok c.ty (l - take20 c.name.size)
      obtain ⟨b1, b2, b3⟩ := lightPas_ok cs (lightTy c.ty (l - take20 c.name.size))
      refine ⟨by omega, fun h => ?_, fun h h3 => ?_⟩
      · by_cases hn : lightTy c.ty (l - take20 c.name.size) < 0
        · rw [lightPas_neg _ _ hn]
          by_cases hn2 : l - take20 c.name.size < 0
          · have := a3 hn2; omega
          · have := a2 (by omega); omega
        · exact b2 (by omega)
      · obtain ⟨c1, c2⟩ := b3 h (by omega)
        refine ⟨by simp; omega, fun x hx => ?_⟩
        rcases List.mem_cons.1 hx with rfl | hx
        · exact ⟨take20_small (by omega), a4 (by omega) (by omega)⟩
        · exact c2 x hx
theorem lightFu_ok (f : Fu) (l : Int) : lightFu f l ≤ l - 1 ∧ (0 ≤ l → -20000000 ≤ lightFu f l) ∧ (0 ≤ lightFu f l → l ≤ 3000 → wfEx f.body → smallFu f) := by
  unfold lightFu
  have ht := take20_le f.name.size
  obtain ⟨a1, a2, a3, a4⟩ := lightTy_ok f.result (l - 1 - take20 f.name.size)
  obtain ⟨b1, b2, b3, b4⟩ := lightEx_ok f.body (lightTy f.result (l - 1 - take20 f.name.size))
  obtain ⟨c1, c2, c3⟩ := lightPas_ok f.params (lightEx f.body (lightTy f.result (l - 1 - take20 f.name.size)))
  refine ⟨by omega, fun h => ?_, fun h h3 hw => ?_⟩
  · have e1 : -2097155 ≤ lightTy f.result (l - 1 - take20 f.name.size) := by
      by_cases hn : l - 1 - take20 f.name.size < 0
      · have := a3 hn; omega
      · have := a2 (by omega); omega
    have e2 : -10000000 ≤ lightEx f.body (lightTy f.result (l - 1 - take20 f.name.size)) := by
      by_cases hn : lightTy f.result (l - 1 - take20 f.name.size) < 0
      · have := b3 hn; omega
      · have := b2 (by omega); omega
    by_cases hn : lightEx f.body (lightTy f.result (l - 1 - take20 f.name.size)) < 0
    · rw [lightPas_neg _ _ hn]; omega
    · have := c2 (by omega); omega
  · obtain ⟨d1, d2⟩ := c3 h (by omega)
    exact ⟨take20_small (by omega), by omega, d2, a4 (by omega) (by omega), b4 (by omega) (by omega) hw⟩
theorem lightHa_ok (f : Ha) (l : Int) : lightHa f l ≤ l - 1 ∧ (0 ≤ l → -20000000 ≤ lightHa f l) ∧ (0 ≤ lightHa f l → l ≤ 3000 → wfEx f.body → smallHa f) := by
  unfold lightHa
  have ht := take20_le f.name.size
  have ht2 := take20_le f.param.name.size
  obtain ⟨a1, a2, a3, a4⟩ := lightTy_ok f.param.ty (l - 1 - take20 f.name.size - take20 f.param.name.size)
  obtain ⟨b1, b2, b3, b4⟩ := lightEx_ok f.body (lightTy f.param.ty (l - 1 - take20 f.name.size - take20 f.param.name.size))
  refine ⟨by omega, fun h => ?_, fun h h3 hw => ?_⟩
  · have e1 : -4097155 ≤ lightTy f.param.ty (l - 1 - take20 f.name.size - take20 f.param.name.size) := by
      by_cases hn : l - 1 - take20 f.name.size - take20 f.param.name.size < 0
      · have := a3 hn; omega
      · have := a2 (by omega); omega
    by_cases hn : lightTy f.param.ty (l - 1 - take20 f.name.size - take20 f.param.name.size) < 0
    · have := b3 hn; omega
    · have := b2 (by omega); omega
  · exact ⟨take20_small (by omega), ⟨take20_small (by omega), a4 (by omega) (by omega)⟩, b4 (by omega) (by omega) hw⟩
theorem lightFus_ok : ∀ (cs : List Fu) (l : Int), lightFus cs l ≤ l ∧ (0 ≤ l → -20000000 ≤ lightFus cs l) ∧ (0 ≤ lightFus cs l → l ≤ 3000 → (∀ f ∈ cs, wfEx f.body) → (cs.length : Int) ≤ l ∧ ∀ c ∈ cs, smallFu c)
  | [], l => by unfold lightFus; exact ⟨by omega, fun h => by omega, fun h _ _ => ⟨by simpa using h, by simp⟩⟩
  | c :: cs, l => by
    unfold lightFus
    split
    · exact ⟨by omega, fun h => by omega, fun h => by omega⟩
    · obtain ⟨a1, a2, a3⟩ := lightFu_ok c l
      obtain ⟨b1, b2, b3⟩ := lightFus_ok cs (lightFu c l)
      refine ⟨by omega, fun h => ?_, fun h h3 hw => ?_⟩
      · by_cases hn : lightFu c l < 0
        · rw [lightFus_neg _ _ hn]; exact a2 h
        · exact b2 (by omega)
      · obtain ⟨c1, c2⟩ := b3 h (by omega) (fun f hf => hw f (List.mem_cons_of_mem _ hf))
        refine ⟨by simp; omega, fun x hx => ?_⟩
        rcases List.mem_cons.1 hx with rfl | hx
        · exact a3 (by omega) h3 (hw _ List.mem_cons_self)
        · exact c2 x hx
theorem lightHas_ok : ∀ (cs : List Ha) (l : Int), lightHas cs l ≤ l ∧ (0 ≤ l → -20000000 ≤ lightHas cs l) ∧ (0 ≤ lightHas cs l → l ≤ 3000 → (∀ f ∈ cs, wfEx f.body) → (cs.length : Int) ≤ l ∧ ∀ c ∈ cs, smallHa c)
  | [], l => by unfold lightHas; exact ⟨by omega, fun h => by omega, fun h _ _ => ⟨by simpa using h, by simp⟩⟩
  | c :: cs, l => by
    unfold lightHas
    split
    · exact ⟨by omega, fun h => by omega, fun h => by omega⟩
    · obtain ⟨a1, a2, a3⟩ := lightHa_ok c l
      obtain ⟨b1, b2, b3⟩ := lightHas_ok cs (lightHa c l)
      refine ⟨by omega, fun h => ?_, fun h h3 hw => ?_⟩
      · by_cases hn : lightHa c l < 0
        · rw [lightHas_neg _ _ hn]; exact a2 h
        · exact b2 (by omega)
      · obtain ⟨c1, c2⟩ := b3 h (by omega) (fun f hf => hw f (List.mem_cons_of_mem _ hf))
        refine ⟨by simp; omega, fun x hx => ?_⟩
        rcases List.mem_cons.1 hx with rfl | hx
        · exact a3 (by omega) h3 (hw _ List.mem_cons_self)
        · exact c2 x hx
theorem lightPr_small (p : Pr) (hw : wfPr p) (h : 0 ≤ lightPr p 3000) : smallPr p := by
  unfold lightPr at h
  obtain ⟨w1, w2, w3⟩ := hw
  obtain ⟨a1, a2, a3, a4⟩ := lightTy_ok p.state 3000
  obtain ⟨b1, b2, b3, b4⟩ := lightEx_ok p.init (lightTy p.state 3000)
  obtain ⟨c1, c2, c3⟩ := lightDas_ok p.datas (lightEx p.init (lightTy p.state 3000))
  obtain ⟨d1, d2, d3⟩ := lightFus_ok p.funs (lightDas p.datas (lightEx p.init (lightTy p.state 3000)))
  obtain ⟨e1, e2, e3⟩ := lightHas_ok p.hands (lightFus p.funs (lightDas p.datas (lightEx p.init (lightTy p.state 3000))))
  obtain ⟨e4, e5⟩ := e3 h (by omega) w2
  obtain ⟨d4, d5⟩ := d3 (by omega) (by omega) w1
  obtain ⟨c4, c5⟩ := c3 (by omega) (by omega)
  exact ⟨by omega, c5, by omega, d5, by omega, e5, a4 (by omega) (by omega), b4 (by omega) (by omega) w3⟩
set_option maxHeartbeats 1000000 in
theorem light_prog (p : Pr) (hw : wfPr p) (l : Int) (h0 : 0 ≤ l) (h1 : l ≤ 3000) : PCalls Tryz.prog 32 [.agg (prP p), .con (.int .i64 l)] (fun r => r = .con (.int .i64 (lightPr p l))) := by
  obtain ⟨ds, fs, q, tm, st, cp, ini, hds⟩ := p
  obtain ⟨w1, w2, w3⟩ := hw
  dsimp only at w1 w2 w3
  obtain ⟨L, hL⟩ : ∃ L, lightPr ⟨ds, fs, q, tm, st, cp, ini, hds⟩ l = L := ⟨_, rfl⟩
  rw [hL]
  unfold lightPr at hL
  dsimp only at hL
  obtain ⟨a1, a2, a3, a4⟩ := lightTy_ok st l
  have b1' := a2 h0
  obtain ⟨b1, b2, b3, b4⟩ := lightEx_ok ini (lightTy st l)
  have b5 : -10000000 ≤ lightEx ini (lightTy st l) := by
    by_cases hn : lightTy st l < 0
    · have := b3 hn; omega
    · have := b2 (by omega); omega
  have hr := light_ty st l (by omega) h1
  have hb := light_ex ini w3 (lightTy st l) (by omega) (by omega)
  obtain ⟨z1, hz1⟩ : ∃ z, lightTy st l = z := ⟨_, rfl⟩
  rw [hz1] at hr hb hL b1 b5 a1 b1'
  obtain ⟨z2, hz2⟩ : ∃ z, lightEx ini z1 = z := ⟨_, rfl⟩
  rw [hz2] at hb hL b1 b5
  obtain ⟨k, n, ps, hp⟩ := ty_mk st
  obtain ⟨k', li', co', m', b', n', ks', ps', bs', hp2⟩ := ex_mk ini
  subst hp hp2
  refine a32 _ _ _ _ _ _ _ _ _ _ _ _ _ _ _ _ _ _ _ ?_
  unfold p32
  rw [List.length_map, List.length_map, List.length_map]
  refine ⟨_, call_p (enters_of Tryz.func10 (by kernel_rfl) rfl) hr rfl ?_⟩
  refine ⟨_, call_p (enters_of Tryz.func8 (by kernel_rfl) rfl) hb rfl ?_⟩
  -- the datas
  refine ⟨fun c v => ∃ j : Nat, j ≤ ds.length ∧ c = ds.length - j ∧ v.2.1 = (j : Int) ∧ lightHas hds (lightFus fs (lightDas (ds.drop j) v.1)) = L ∧ -100000000 ≤ v.1 ∧ v.1 + j ≤ 3000, ⟨_, 0, Nat.zero_le _, rfl, rfl, by simpa using hL, by dsimp only; omega, by dsimp only; omega⟩, ?_⟩
  rintro c ⟨cur, i, u⟩ ⟨j, hj, rfl, hi, hLj, b0, b1⟩
  dsimp only at hi hLj b0 b1 ⊢
  subst hi
  by_cases hgo : j < ds.length ∧ 0 ≤ cur
  · obtain ⟨hlt, hc⟩ := hgo
    rw [List.drop_eq_getElem_cons hlt, lightDas, if_neg (by omega)] at hLj
    have hx := map_get daP ds j hlt
    obtain ⟨cc, hcc⟩ : ∃ cc, ds[j] = cc := ⟨_, rfl⟩
    rw [hcc] at hx hLj
    obtain ⟨dli, dco, dnm, dcs⟩ := cc
    dsimp only at hLj
    have ht := take20_le dnm.size
    refine br_i (fun _ => br_i (fun _ => ?_) (fun hf => absurd hc (by simpa using hf))) (fun hf => absurd hlt (by simpa using hf))
    refine ⟨_, _, _, _, ⟨by omega, by rw [Int.toNat_natCast]; exact hx, ?_⟩⟩
    rw [min_take, wrap_id (n := cur - 1) (by omega) (by omega), wrap_id (n := cur - 1 - take20 dnm.size) (by omega) (by omega)]
    refine ⟨fun c v => ∃ j2 : Nat, j2 ≤ dcs.length ∧ c = dcs.length - j2 ∧ v.2.1 = (j2 : Int) ∧ lightHas hds (lightFus fs (lightDas (ds.drop (j + 1)) (lightCos (dcs.drop j2) v.1))) = L ∧ -100000000 ≤ v.1 ∧ v.1 + j2 + j + 1 ≤ 3000, ⟨_, 0, Nat.zero_le _, rfl, rfl, by simpa using hLj, by dsimp only; omega, by dsimp only; omega⟩, ?_⟩
    rintro c ⟨cur2, i, u⟩ ⟨j2, hj2, rfl, hi, hLj2, b2, b3⟩
    dsimp only at hi hLj2 b2 b3 ⊢
    subst hi
    refine ⟨_, _, _, _, ⟨by omega, by rw [Int.toNat_natCast]; exact hx, ?_⟩⟩
    rw [List.length_map]
    by_cases hgo2 : j2 < dcs.length ∧ 0 ≤ cur2
    · obtain ⟨hlt2, hc2⟩ := hgo2
      rw [List.drop_eq_getElem_cons hlt2, lightCos, if_neg (by omega)] at hLj2
      have hx2 := map_get coP dcs j2 hlt2
      obtain ⟨c3, hc3⟩ : ∃ cc, dcs[j2] = cc := ⟨_, rfl⟩
      rw [hc3] at hx2 hLj2
      obtain ⟨cn, cf⟩ := c3
      obtain ⟨q1, q2, q3, q4⟩ := lightTy_ok (coT ⟨cn, cf⟩) cur2
      have q5 := q2 hc2
      have hi2 := light_ty (coT ⟨cn, cf⟩) cur2 (by omega) (by omega)
      refine br_i (fun _ => br_i (fun _ => ?_) (fun hf => absurd hc2 (by simpa using hf))) (fun hf => absurd hlt2 (by simpa using hf))
      refine ⟨_, _, _, _, ⟨by omega, by rw [Int.toNat_natCast]; exact hx, ?_⟩⟩
      refine ⟨_, _, ⟨by omega, by rw [Int.toNat_natCast]; exact hx2, ?_⟩⟩
      refine ⟨_, _, _, _, ⟨by omega, by rw [Int.toNat_natCast]; exact hx, ?_⟩⟩
      refine ⟨_, _, ⟨by omega, by rw [Int.toNat_natCast]; exact hx2, ?_⟩⟩
      refine ⟨_, call_p (enters_of Tryz.func10 (by kernel_rfl) rfl) hi2 rfl ⟨⟨by trivial, by trivial, trivial⟩, by trivial, dcs.length - (j2 + 1), by omega, j2 + 1, by omega, rfl, ?_, hLj2, ?_, ?_⟩⟩
      · rw [wrap_id (by omega) (by omega)]; simp
      · omega
      · omega
    replace hLj2 : lightHas hds (lightFus fs (lightDas (ds.drop (j + 1)) cur2)) = L := by
      by_cases hlt2 : j2 < dcs.length
      · rw [List.drop_eq_getElem_cons hlt2, lightCos, if_pos (by omega)] at hLj2; exact hLj2
      · rw [List.drop_of_length_le (show dcs.length ≤ j2 by omega), lightCos] at hLj2; exact hLj2
    refine br_i (fun hlt2 => br_i (fun hc2 => absurd ⟨by simpa using hlt2, by simpa using hc2⟩ hgo2) (fun hc2 => ?_)) (fun hge2 => ?_)
    all_goals
      refine ⟨⟨by trivial, trivial⟩, by trivial, ds.length - (j + 1), by omega, j + 1, by omega, by trivial, ?_, hLj2, by omega, by omega⟩
      rw [wrap_id (by omega) (by omega)]; simp
  replace hLj : lightHas hds (lightFus fs cur) = L := by
    by_cases hlt : j < ds.length
    · rw [List.drop_eq_getElem_cons hlt, lightDas, if_pos (by omega)] at hLj; exact hLj
    · rw [List.drop_of_length_le (by omega), lightDas] at hLj; exact hLj
  refine br_i (fun hlt => br_i (fun hc => absurd ⟨by simpa using hlt, by simpa using hc⟩ hgo) (fun hc => ?_)) (fun hge => ?_)
  all_goals
    clear hgo
    -- the functions
    refine ⟨fun c v => ∃ j : Nat, j ≤ fs.length ∧ c = fs.length - j ∧ v.2.1 = (j : Int) ∧ lightHas hds (lightFus (fs.drop j) v.1) = L ∧ -200000000 ≤ v.1 ∧ v.1 + j ≤ 3000, ⟨_, 0, Nat.zero_le _, rfl, rfl, by simpa using hLj, by dsimp only; omega, by dsimp only; omega⟩, ?_⟩
    rintro c ⟨fcur, i, u⟩ ⟨f, hf, rfl, hi, hLf, g0, g1⟩
    dsimp only at hi hLf g0 g1 ⊢
    subst hi
    by_cases hgo : f < fs.length ∧ 0 ≤ fcur
    · obtain ⟨hlt, hc⟩ := hgo
      rw [List.drop_eq_getElem_cons hlt, lightFus, if_neg (by omega)] at hLf
      have hx := map_get fuP fs f hlt
      have hwf := w1 fs[f] (List.getElem_mem hlt)
      obtain ⟨cc, hcc⟩ : ∃ cc, fs[f] = cc := ⟨_, rfl⟩
      rw [hcc] at hx hLf hwf
      obtain ⟨fli, fco, fnm, fpa, fre, fbo⟩ := cc
      dsimp only at hwf
      unfold lightFu at hLf
      dsimp only at hLf
      have ht := take20_le fnm.size
      obtain ⟨a1, a2, a3, a4⟩ := lightTy_ok fre (fcur - 1 - take20 fnm.size)
      have e1 : -2097155 ≤ lightTy fre (fcur - 1 - take20 fnm.size) := by
        by_cases hn : fcur - 1 - take20 fnm.size < 0
        · have := a3 hn; omega
        · have := a2 (by omega); omega
      obtain ⟨b1, b2, b3, b4⟩ := lightEx_ok fbo (lightTy fre (fcur - 1 - take20 fnm.size))
      have e2 : -10000000 ≤ lightEx fbo (lightTy fre (fcur - 1 - take20 fnm.size)) := by
        by_cases hn : lightTy fre (fcur - 1 - take20 fnm.size) < 0
        · have := b3 hn; omega
        · have := b2 (by omega); omega
      have hr2 := light_ty fre (fcur - 1 - take20 fnm.size) (by omega) (by omega)
      have hb2 := light_ex fbo hwf (lightTy fre (fcur - 1 - take20 fnm.size)) (by omega) (by omega)
      obtain ⟨y1, hy1⟩ : ∃ z, lightTy fre (fcur - 1 - take20 fnm.size) = z := ⟨_, rfl⟩
      rw [hy1] at hr2 hb2 hLf b1 e2 a1 e1
      obtain ⟨y2, hy2⟩ : ∃ z, lightEx fbo y1 = z := ⟨_, rfl⟩
      rw [hy2] at hb2 hLf b1 e2
      clear a2 a3 a4 b2 b3 b4 hy1 hy2
      obtain ⟨k, n, ps, hp⟩ := ty_mk fre
      obtain ⟨k', li', co', m', b', n', ks', ps', bs', hp2⟩ := ex_mk fbo
      subst hp hp2
      refine br_i (fun _ => br_i (fun _ => ?_) (fun hf => absurd hc (by simpa using hf))) (fun hf => absurd hlt (by simpa using hf))
      refine ⟨_, _, _, _, _, _, _, _, _, _, _, _, _, _, _, ⟨by omega, by rw [Int.toNat_natCast]; exact hx, ?_⟩⟩
      rw [min_take, wrap_id (n := fcur - 1) (by omega) (by omega), wrap_id (n := fcur - 1 - take20 fnm.size) (by omega) (by omega), List.length_map]
      refine ⟨_, call_p (enters_of Tryz.func10 (by kernel_rfl) rfl) hr2 rfl ?_⟩
      refine ⟨_, call_p (enters_of Tryz.func8 (by kernel_rfl) rfl) hb2 rfl ?_⟩
      refine ⟨fun c v => ∃ j2 : Nat, j2 ≤ fpa.length ∧ c = fpa.length - j2 ∧ v.2.1 = (j2 : Int) ∧ lightHas hds (lightFus (fs.drop (f + 1)) (lightPas (fpa.drop j2) v.1)) = L ∧ -100000000 ≤ v.1 ∧ v.1 + j2 + f + 1 ≤ 3000, ⟨_, 0, Nat.zero_le _, rfl, rfl, by simpa using hLf, by dsimp only; omega, by dsimp only; omega⟩, ?_⟩
      rintro c ⟨cur2, i, u⟩ ⟨j2, hj2, rfl, hi, hLj2, b2, b3⟩
      dsimp only at hi hLj2 b2 b3 ⊢
      subst hi
      by_cases hgo2 : j2 < fpa.length ∧ 0 ≤ cur2
      · obtain ⟨hlt2, hc2⟩ := hgo2
        rw [List.drop_eq_getElem_cons hlt2, lightPas, if_neg (by omega)] at hLj2
        have hx2 := map_get paP fpa j2 hlt2
        obtain ⟨c3, hc3⟩ : ∃ cc, fpa[j2] = cc := ⟨_, rfl⟩
        rw [hc3] at hx2 hLj2
        obtain ⟨cn, ct⟩ := c3
        dsimp only at hLj2
        have ht2 := take20_le cn.size
        obtain ⟨q1, q2, q3, q4⟩ := lightTy_ok ct (cur2 - take20 cn.size)
        have q5 : -10000000 ≤ lightTy ct (cur2 - take20 cn.size) := by
          by_cases hn : cur2 - take20 cn.size < 0
          · have := q3 hn; omega
          · have := q2 (by omega); omega
        have hi2 := light_ty ct (cur2 - take20 cn.size) (by omega) (by omega)
        obtain ⟨k, n, ps, hp⟩ := ty_mk ct
        subst hp
        refine br_i (fun _ => br_i (fun _ => ?_) (fun hf => absurd hc2 (by simpa using hf))) (fun hf => absurd hlt2 (by simpa using hf))
        refine ⟨_, _, _, _, ⟨by omega, by rw [Int.toNat_natCast]; exact hx2, ?_⟩⟩
        refine ⟨_, _, _, _, ⟨by omega, by rw [Int.toNat_natCast]; exact hx2, ?_⟩⟩
        rw [min_take, wrap_id (n := cur2 - take20 cn.size) (by omega) (by omega)]
        refine ⟨_, call_p (enters_of Tryz.func10 (by kernel_rfl) rfl) hi2 rfl ⟨⟨by trivial, by trivial, by trivial, trivial⟩, by trivial, fpa.length - (j2 + 1), by omega, j2 + 1, by omega, rfl, ?_, hLj2, ?_, ?_⟩⟩
        · rw [wrap_id (by omega) (by omega)]; simp
        · omega
        · omega
      replace hLj2 : lightHas hds (lightFus (fs.drop (f + 1)) cur2) = L := by
        by_cases hlt2 : j2 < fpa.length
        · rw [List.drop_eq_getElem_cons hlt2, lightPas, if_pos (by omega)] at hLj2; exact hLj2
        · rw [List.drop_of_length_le (show fpa.length ≤ j2 by omega), lightPas] at hLj2; exact hLj2
      refine br_i (fun hlt2 => br_i (fun hc2 => absurd ⟨by simpa using hlt2, by simpa using hc2⟩ hgo2) (fun hc2 => ?_)) (fun hge2 => ?_)
      all_goals
        refine ⟨⟨by trivial, trivial⟩, by trivial, fs.length - (f + 1), by omega, f + 1, by omega, by trivial, ?_, hLj2, by omega, by omega⟩
        rw [wrap_id (by omega) (by omega)]; simp
    replace hLf : lightHas hds fcur = L := by
      by_cases hlt : f < fs.length
      · rw [List.drop_eq_getElem_cons hlt, lightFus, if_pos (by omega)] at hLf; exact hLf
      · rw [List.drop_of_length_le (by omega), lightFus] at hLf; exact hLf
    refine br_i (fun hlt => br_i (fun hc => absurd ⟨by simpa using hlt, by simpa using hc⟩ hgo) (fun hc => ?_)) (fun hge => ?_)
    all_goals
      clear hgo
      -- the handlers
      refine ⟨fun c v => ∃ j : Nat, j ≤ hds.length ∧ c = hds.length - j ∧ v.2.1 = (j : Int) ∧ lightHas (hds.drop j) v.1 = L ∧ -300000000 ≤ v.1 ∧ v.1 + j ≤ 3000, ⟨_, 0, Nat.zero_le _, rfl, rfl, by simpa using hLf, by dsimp only; omega, by dsimp only; omega⟩, ?_⟩
      rintro c ⟨gcur, i, u⟩ ⟨g, hg, rfl, hi, hLg, r0, r1⟩
      dsimp only at hi hLg r0 r1 ⊢
      subst hi
      by_cases hgo : g < hds.length ∧ 0 ≤ gcur
      · obtain ⟨hlt, hc⟩ := hgo
        rw [List.drop_eq_getElem_cons hlt, lightHas, if_neg (by omega)] at hLg
        have hx := map_get haP hds g hlt
        have hwf := w2 hds[g] (List.getElem_mem hlt)
        obtain ⟨cc, hcc⟩ : ∃ cc, hds[g] = cc := ⟨_, rfl⟩
        rw [hcc] at hx hLg hwf
        obtain ⟨hli, hco, hnm, hpa, hcp, hbo⟩ := cc
        obtain ⟨pn, pt⟩ := hpa
        dsimp only at hwf
        unfold lightHa at hLg
        dsimp only at hLg
        have ht := take20_le hnm.size
        have ht2 := take20_le pn.size
        obtain ⟨a1, a2, a3, a4⟩ := lightTy_ok pt (gcur - 1 - take20 hnm.size - take20 pn.size)
        have e1 : -4097155 ≤ lightTy pt (gcur - 1 - take20 hnm.size - take20 pn.size) := by
          by_cases hn : gcur - 1 - take20 hnm.size - take20 pn.size < 0
          · have := a3 hn; omega
          · have := a2 (by omega); omega
        obtain ⟨b1, b2, b3, b4⟩ := lightEx_ok hbo (lightTy pt (gcur - 1 - take20 hnm.size - take20 pn.size))
        have e2 : -10000000 ≤ lightEx hbo (lightTy pt (gcur - 1 - take20 hnm.size - take20 pn.size)) := by
          by_cases hn : lightTy pt (gcur - 1 - take20 hnm.size - take20 pn.size) < 0
          · have := b3 hn; omega
          · have := b2 (by omega); omega
        have hr2 := light_ty pt (gcur - 1 - take20 hnm.size - take20 pn.size) (by omega) (by omega)
        have hb2 := light_ex hbo hwf (lightTy pt (gcur - 1 - take20 hnm.size - take20 pn.size)) (by omega) (by omega)
        obtain ⟨k, n, ps, hp⟩ := ty_mk pt
        obtain ⟨k', li', co', m', b', n', ks', ps', bs', hp2⟩ := ex_mk hbo
        subst hp hp2
        refine br_i (fun _ => br_i (fun _ => ?_) (fun hf => absurd hc (by simpa using hf))) (fun hf => absurd hlt (by simpa using hf))
        refine ⟨_, _, _, _, _, _, _, _, _, _, _, _, _, _, _, _, ⟨by omega, by rw [Int.toNat_natCast]; exact hx, ?_⟩⟩
        rw [min_take, min_take, wrap_id (n := gcur - 1) (by omega) (by omega), wrap_id (n := gcur - 1 - take20 hnm.size) (by omega) (by omega), wrap_id (n := gcur - 1 - take20 hnm.size - take20 pn.size) (by omega) (by omega)]
        refine ⟨_, call_p (enters_of Tryz.func10 (by kernel_rfl) rfl) hr2 rfl ?_⟩
        refine ⟨_, call_p (enters_of Tryz.func8 (by kernel_rfl) rfl) hb2 rfl ⟨⟨by trivial, trivial⟩, by trivial, hds.length - (g + 1), by omega, g + 1, by omega, rfl, ?_, hLg, ?_, ?_⟩⟩
        · rw [wrap_id (by omega) (by omega)]; simp
        · omega
        · omega
      replace hLg : gcur = L := by
        by_cases hlt : g < hds.length
        · rw [List.drop_eq_getElem_cons hlt, lightHas, if_pos (by omega)] at hLg; exact hLg
        · rw [List.drop_of_length_le (by omega), lightHas] at hLg; exact hLg
      refine br_i (fun hlt => br_i (fun hc => absurd ⟨by simpa using hlt, by simpa using hc⟩ hgo) (fun hc => ⟨by rw [hLg], rfl⟩)) (fun hge => ⟨by rw [hLg], rfl⟩)
theorem light_p (p : Pr) (hw : wfPr p) : PCalls Tryz.prog 7 [.agg (prP p)] (fun r => r = .con (.bool (decide (lightPr p 3000 ≥ 0)))) := by
  have h := light_prog p hw 3000 (by omega) (by omega)
  obtain ⟨ds, fs, q, tm, st, cp, ini, hds⟩ := p
  obtain ⟨k, n, ps, hp⟩ := ty_mk st
  obtain ⟨k', li', co', m', b', n', ks', ps', bs', hp2⟩ := ex_mk ini
  subst hp hp2
  refine a7 _ _ _ _ _ _ _ _ _ _ _ _ _ _ _ _ _ _ ?_
  unfold p7
  exact ⟨_, call_p (enters_of Tryz.func32 (by kernel_rfl) rfl) h rfl ⟨rfl, rfl⟩⟩
end Go.Proofs.YtcmnjodjebcapaaGreat.Deep
