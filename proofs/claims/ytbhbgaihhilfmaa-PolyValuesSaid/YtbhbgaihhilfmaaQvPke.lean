/-
  Texts of one proof, in their order. No condition.
-/
import Derived.Test.YtbhbgaihhilfmaaQvM9
import Derived.KernelRfl
import Derived.Test.YtbhbgaihhilfmaaQvPkd
namespace Go.Proofs.Ytbhbgaihhilfmaa.Deep
open Go.RowKit
set_option linter.unusedVariables false
def p35 (i1 : Int) (Q : PV → Heap → Prop) : Prop :=
br ((decide ((i1 : Int) ≥ 0)))
  (Q (.con (.bool (decide ((i1 : Int) < 12)))) [])
  (Q (.con (.bool false)) [])
theorem a35 (i1 : Int) (Q : PV → Heap → Prop) (h : p35 i1 Q) : ACalls Try.prog 35 [i1] [] Q := by
  have hb : Option.some (bodyOf Try.f35) = Try.f35.body := by kernel_rfl
  exact acalls_eq (S := S) (L := loops32) mixed tok Try.func35 hb.symm (by kernel_rfl) h
def loops39 (id : Nat) : Option (List Nat × List (Nat × Sh)) := match Nat.beq id 4 with | true => some ([2, 3], [(5, .int .i64)]) | false => none
def p39 (i1 i2 i3 i4 i5 i6 i7 i8 i9 i10 i11 i12 i13 i14 i15 i16 i17 i18 i19 i20 i21 i22 i23 i24 i25 i26 : Int) (Q : PV → Heap → Prop) : Prop :=
∃ (i27 i28 i29 i30 i31 i32 i33 i34 i35 i36 i37 i38 : Int), RowN [(.con (.int .u8 i1)), (.con (.int .u8 i2)), (.con (.int .u8 i3)), (.con (.int .u8 i4)), (.con (.int .u8 i5)), (.con (.int .u8 i6)), (.con (.int .u8 i7)), (.con (.int .u8 i8)), (.con (.int .u8 i9)), (.con (.int .u8 i10)), (.con (.int .u8 i11)), (.con (.int .u8 i12)), i13] 0 [(.con (.int .u8 i27)), (.con (.int .u8 i28)), (.con (.int .u8 i29)), (.con (.int .u8 i30)), (.con (.int .u8 i31)), (.con (.int .u8 i32)), (.con (.int .u8 i33)), (.con (.int .u8 i34)), (.con (.int .u8 i35)), (.con (.int .u8 i36)), (.con (.int .u8 i37)), (.con (.int .u8 i38))]
  (∃ (i39 i40 i41 i42 i43 i44 i45 i46 i47 i48 i49 i50 : Int), RowN [(.con (.int .u8 i14)), (.con (.int .u8 i15)), (.con (.int .u8 i16)), (.con (.int .u8 i17)), (.con (.int .u8 i18)), (.con (.int .u8 i19)), (.con (.int .u8 i20)), (.con (.int .u8 i21)), (.con (.int .u8 i22)), (.con (.int .u8 i23)), (.con (.int .u8 i24)), (.con (.int .u8 i25)), i26] 0 [(.con (.int .u8 i39)), (.con (.int .u8 i40)), (.con (.int .u8 i41)), (.con (.int .u8 i42)), (.con (.int .u8 i43)), (.con (.int .u8 i44)), (.con (.int .u8 i45)), (.con (.int .u8 i46)), (.con (.int .u8 i47)), (.con (.int .u8 i48)), (.con (.int .u8 i49)), (.con (.int .u8 i50))]
  (EqA Try.prog 57
  (br ((((i27 : Int) == i39) && (((i28 : Int) == i40) && (((i29 : Int) == i41) && (((i30 : Int) == i42) && (((i31 : Int) == i43) && (((i32 : Int) == i44) && (((i33 : Int) == i45) && (((i34 : Int) == i46) && (((i35 : Int) == i47) && (((i36 : Int) == i48) && (((i37 : Int) == i49) && (((i38 : Int) == i50) && true)))))))))))))
  (Q (.con (.int .i64 0)) [[(.row [(.con (.int .u8 i1)), (.con (.int .u8 i2)), (.con (.int .u8 i3)), (.con (.int .u8 i4)), (.con (.int .u8 i5)), (.con (.int .u8 i6)), (.con (.int .u8 i7)), (.con (.int .u8 i8)), (.con (.int .u8 i9)), (.con (.int .u8 i10)), (.con (.int .u8 i11)), (.con (.int .u8 i12)), i13])], [(.row [(.con (.int .u8 i14)), (.con (.int .u8 i15)), (.con (.int .u8 i16)), (.con (.int .u8 i17)), (.con (.int .u8 i18)), (.con (.int .u8 i19)), (.con (.int .u8 i20)), (.con (.int .u8 i21)), (.con (.int .u8 i22)), (.con (.int .u8 i23)), (.con (.int .u8 i24)), (.con (.int .u8 i25)), i26])]])
  (∃ I51 : Nat → ((Int) × Unit) → Prop, (∃ n, I51 n (0, ())) ∧ ∀ (n52 : Nat) (v53 : (Int) × Unit), I51 n52 v53 →
  (IdxR 12 v53.1
  (∃ i54 : Int, RowN [(.con (.int .u8 i1)), (.con (.int .u8 i2)), (.con (.int .u8 i3)), (.con (.int .u8 i4)), (.con (.int .u8 i5)), (.con (.int .u8 i6)), (.con (.int .u8 i7)), (.con (.int .u8 i8)), (.con (.int .u8 i9)), (.con (.int .u8 i10)), (.con (.int .u8 i11)), (.con (.int .u8 i12)), i13] (0 + Int.toNat v53.1 * 1) [(.con (.int .u8 i54))]
  (IdxR 12 v53.1
  (∃ i55 : Int, RowN [(.con (.int .u8 i14)), (.con (.int .u8 i15)), (.con (.int .u8 i16)), (.con (.int .u8 i17)), (.con (.int .u8 i18)), (.con (.int .u8 i19)), (.con (.int .u8 i20)), (.con (.int .u8 i21)), (.con (.int .u8 i22)), (.con (.int .u8 i23)), (.con (.int .u8 i24)), (.con (.int .u8 i25)), i26] (0 + Int.toNat v53.1 * 1) [(.con (.int .u8 i55))]
  (br (((i54 : Int) == i55))
  ((@Eq PV (.ptr 0 0) (.ptr 0 0) ∧ @Eq PV (.ptr 1 0) (.ptr 1 0) ∧ True) ∧ @Eq Heap [[(.row [(.con (.int .u8 i1)), (.con (.int .u8 i2)), (.con (.int .u8 i3)), (.con (.int .u8 i4)), (.con (.int .u8 i5)), (.con (.int .u8 i6)), (.con (.int .u8 i7)), (.con (.int .u8 i8)), (.con (.int .u8 i9)), (.con (.int .u8 i10)), (.con (.int .u8 i11)), (.con (.int .u8 i12)), i13])], [(.row [(.con (.int .u8 i14)), (.con (.int .u8 i15)), (.con (.int .u8 i16)), (.con (.int .u8 i17)), (.con (.int .u8 i18)), (.con (.int .u8 i19)), (.con (.int .u8 i20)), (.con (.int .u8 i21)), (.con (.int .u8 i22)), (.con (.int .u8 i23)), (.con (.int .u8 i24)), (.con (.int .u8 i25)), i26])]] [[(.row [(.con (.int .u8 i1)), (.con (.int .u8 i2)), (.con (.int .u8 i3)), (.con (.int .u8 i4)), (.con (.int .u8 i5)), (.con (.int .u8 i6)), (.con (.int .u8 i7)), (.con (.int .u8 i8)), (.con (.int .u8 i9)), (.con (.int .u8 i10)), (.con (.int .u8 i11)), (.con (.int .u8 i12)), i13])], [(.row [(.con (.int .u8 i14)), (.con (.int .u8 i15)), (.con (.int .u8 i16)), (.con (.int .u8 i17)), (.con (.int .u8 i18)), (.con (.int .u8 i19)), (.con (.int .u8 i20)), (.con (.int .u8 i21)), (.con (.int .u8 i22)), (.con (.int .u8 i23)), (.con (.int .u8 i24)), (.con (.int .u8 i25)), i26])]] ∧ ∃ k56, k56 < n52 ∧ I51 k56 ((IntKind.wrap .i64 (v53.1 + 1)), ()))
  (IdxR 12 v53.1
  (∃ i57 : Int, RowN [(.con (.int .u8 i1)), (.con (.int .u8 i2)), (.con (.int .u8 i3)), (.con (.int .u8 i4)), (.con (.int .u8 i5)), (.con (.int .u8 i6)), (.con (.int .u8 i7)), (.con (.int .u8 i8)), (.con (.int .u8 i9)), (.con (.int .u8 i10)), (.con (.int .u8 i11)), (.con (.int .u8 i12)), i13] (0 + Int.toNat v53.1 * 1) [(.con (.int .u8 i57))]
  (IdxR 12 v53.1
  (∃ i58 : Int, RowN [(.con (.int .u8 i14)), (.con (.int .u8 i15)), (.con (.int .u8 i16)), (.con (.int .u8 i17)), (.con (.int .u8 i18)), (.con (.int .u8 i19)), (.con (.int .u8 i20)), (.con (.int .u8 i21)), (.con (.int .u8 i22)), (.con (.int .u8 i23)), (.con (.int .u8 i24)), (.con (.int .u8 i25)), i26] (0 + Int.toNat v53.1 * 1) [(.con (.int .u8 i58))]
  (∃ i59 : Int, CallN Try.prog 52 [(.con (.int .u8 i57)), (.con (.int .u8 i58))] [[(.row [(.con (.int .u8 i1)), (.con (.int .u8 i2)), (.con (.int .u8 i3)), (.con (.int .u8 i4)), (.con (.int .u8 i5)), (.con (.int .u8 i6)), (.con (.int .u8 i7)), (.con (.int .u8 i8)), (.con (.int .u8 i9)), (.con (.int .u8 i10)), (.con (.int .u8 i11)), (.con (.int .u8 i12)), i13])], [(.row [(.con (.int .u8 i14)), (.con (.int .u8 i15)), (.con (.int .u8 i16)), (.con (.int .u8 i17)), (.con (.int .u8 i18)), (.con (.int .u8 i19)), (.con (.int .u8 i20)), (.con (.int .u8 i21)), (.con (.int .u8 i22)), (.con (.int .u8 i23)), (.con (.int .u8 i24)), (.con (.int .u8 i25)), i26])]] i59
  (Q i59 [[(.row [(.con (.int .u8 i1)), (.con (.int .u8 i2)), (.con (.int .u8 i3)), (.con (.int .u8 i4)), (.con (.int .u8 i5)), (.con (.int .u8 i6)), (.con (.int .u8 i7)), (.con (.int .u8 i8)), (.con (.int .u8 i9)), (.con (.int .u8 i10)), (.con (.int .u8 i11)), (.con (.int .u8 i12)), i13])], [(.row [(.con (.int .u8 i14)), (.con (.int .u8 i15)), (.con (.int .u8 i16)), (.con (.int .u8 i17)), (.con (.int .u8 i18)), (.con (.int .u8 i19)), (.con (.int .u8 i20)), (.con (.int .u8 i21)), (.con (.int .u8 i22)), (.con (.int .u8 i23)), (.con (.int .u8 i24)), (.con (.int .u8 i25)), i26])]])))))))))))))))
theorem a39 (i1 i2 i3 i4 i5 i6 i7 i8 i9 i10 i11 i12 i13 i14 i15 i16 i17 i18 i19 i20 i21 i22 i23 i24 i25 i26 : Int) (Q : PV → Heap → Prop) (h : p39 i1 i2 i3 i4 i5 i6 i7 i8 i9 i10 i11 i12 i13 i14 i15 i16 i17 i18 i19 i20 i21 i22 i23 i24 i25 i26 Q) : ACalls Try.prog 39 [(.agg [(.con (.int .u8 i1)), (.con (.int .u8 i2)), (.con (.int .u8 i3)), (.con (.int .u8 i4)), (.con (.int .u8 i5)), (.con (.int .u8 i6)), (.con (.int .u8 i7)), (.con (.int .u8 i8)), (.con (.int .u8 i9)), (.con (.int .u8 i10)), (.con (.int .u8 i11)), (.con (.int .u8 i12)), i13]), (.agg [(.con (.int .u8 i14)), (.con (.int .u8 i15)), (.con (.int .u8 i16)), (.con (.int .u8 i17)), (.con (.int .u8 i18)), (.con (.int .u8 i19)), (.con (.int .u8 i20)), (.con (.int .u8 i21)), (.con (.int .u8 i22)), (.con (.int .u8 i23)), (.con (.int .u8 i24)), (.con (.int .u8 i25)), i26])] [] Q := by
  have hb : Option.some (bodyOf Try.f39) = Try.f39.body := by kernel_rfl
  exact acalls_eq (S := S) (L := loops39) mixed tok Try.func39 hb.symm (by kernel_rfl) h
def p52 (i1 i2 : Int) (Q : PV → Heap → Prop) : Prop :=
∃ b3 : Bool, CallN Try.prog 58 [(.con (.int .u8 i1))] [] b3
  (∃ b4 : Bool, CallN Try.prog 58 [(.con (.int .u8 i2))] [] b4
  (br (b3)
  (br (b4)
  (Q (.con (.int .i64 0)) [])
  (Q (.con (.int .i64 (-1))) []))
  (br (b4)
  (Q (.con (.int .i64 1)) [])
  (br ((decide ((i1 : Int) < i2)))
  (Q (.con (.int .i64 (-1))) [])
  (br ((decide ((i1 : Int) > i2)))
  (Q (.con (.int .i64 1)) [])
  (Q (.con (.int .i64 0)) []))))))
theorem a52 (i1 i2 : Int) (Q : PV → Heap → Prop) (h : p52 i1 i2 Q) : ACalls Try.prog 52 [(.con (.int .u8 i1)), (.con (.int .u8 i2))] [] Q := by
  have hb : Option.some (bodyOf Try.f52) = Try.f52.body := by kernel_rfl
  exact acalls_eq (S := S) (L := loops32) mixed tok Try.func52 hb.symm (by kernel_rfl) h
def p58 (i1 : Int) (Q : PV → Heap → Prop) : Prop :=
Q (.con (.bool ((i1 : Int) != i1))) []
theorem a58 (i1 : Int) (Q : PV → Heap → Prop) (h : p58 i1 Q) : ACalls Try.prog 58 [(.con (.int .u8 i1))] [] Q := by
  have hb : Option.some (bodyOf Try.f58) = Try.f58.body := by kernel_rfl
  exact acalls_eq (S := S) (L := loops32) mixed tok Try.func58 hb.symm (by kernel_rfl) h
def p43 (i1 i2 i3 i4 i5 i6 i7 i8 i9 i10 i11 i12 i13 i14 i15 i16 i17 i18 i19 i20 i21 i22 i23 i24 i25 i26 : Int) (Q : PV → Heap → Prop) : Prop :=
∃ (i27 i28 i29 i30 i31 i32 i33 i34 i35 i36 i37 i38 : Int), RowN [(.con (.int .u8 i1)), (.con (.int .u8 i2)), (.con (.int .u8 i3)), (.con (.int .u8 i4)), (.con (.int .u8 i5)), (.con (.int .u8 i6)), (.con (.int .u8 i7)), (.con (.int .u8 i8)), (.con (.int .u8 i9)), (.con (.int .u8 i10)), (.con (.int .u8 i11)), (.con (.int .u8 i12)), i13] 0 [(.con (.int .u8 i27)), (.con (.int .u8 i28)), (.con (.int .u8 i29)), (.con (.int .u8 i30)), (.con (.int .u8 i31)), (.con (.int .u8 i32)), (.con (.int .u8 i33)), (.con (.int .u8 i34)), (.con (.int .u8 i35)), (.con (.int .u8 i36)), (.con (.int .u8 i37)), (.con (.int .u8 i38))]
  (∃ i39 : Int, RowN [(.con (.int .u8 i1)), (.con (.int .u8 i2)), (.con (.int .u8 i3)), (.con (.int .u8 i4)), (.con (.int .u8 i5)), (.con (.int .u8 i6)), (.con (.int .u8 i7)), (.con (.int .u8 i8)), (.con (.int .u8 i9)), (.con (.int .u8 i10)), (.con (.int .u8 i11)), (.con (.int .u8 i12)), i13] 12 [i39]
  (∃ i40 : Int, RowN [(.con (.int .u8 i14)), (.con (.int .u8 i15)), (.con (.int .u8 i16)), (.con (.int .u8 i17)), (.con (.int .u8 i18)), (.con (.int .u8 i19)), (.con (.int .u8 i20)), (.con (.int .u8 i21)), (.con (.int .u8 i22)), (.con (.int .u8 i23)), (.con (.int .u8 i24)), (.con (.int .u8 i25)), i26] 12 [i40]
  (RowW 0 13 (List.length ([(.con (.int .u8 0)), (.con (.int .u8 0)), (.con (.int .u8 0)), (.con (.int .u8 0)), (.con (.int .u8 0)), (.con (.int .u8 0)), (.con (.int .u8 0)), (.con (.int .u8 0)), (.con (.int .u8 0)), (.con (.int .u8 0)), (.con (.int .u8 0)), (.con (.int .u8 0)), (.con (.int .i64 0))] : List PV))
  (∃ (i41 i42 i43 i44 i45 i46 i47 i48 i49 i50 i51 i52 i53 : Int), RowN (splice 0 [(.con (.int .u8 i27)), (.con (.int .u8 i28)), (.con (.int .u8 i29)), (.con (.int .u8 i30)), (.con (.int .u8 i31)), (.con (.int .u8 i32)), (.con (.int .u8 i33)), (.con (.int .u8 i34)), (.con (.int .u8 i35)), (.con (.int .u8 i36)), (.con (.int .u8 i37)), (.con (.int .u8 i38)), (IntKind.wrap .i64 (i39 + i40))] [(.con (.int .u8 0)), (.con (.int .u8 0)), (.con (.int .u8 0)), (.con (.int .u8 0)), (.con (.int .u8 0)), (.con (.int .u8 0)), (.con (.int .u8 0)), (.con (.int .u8 0)), (.con (.int .u8 0)), (.con (.int .u8 0)), (.con (.int .u8 0)), (.con (.int .u8 0)), (.con (.int .i64 0))]) 0 [(.con (.int .u8 i41)), (.con (.int .u8 i42)), (.con (.int .u8 i43)), (.con (.int .u8 i44)), (.con (.int .u8 i45)), (.con (.int .u8 i46)), (.con (.int .u8 i47)), (.con (.int .u8 i48)), (.con (.int .u8 i49)), (.con (.int .u8 i50)), (.con (.int .u8 i51)), (.con (.int .u8 i52)), i53]
  (Q (.agg [(.con (.int .u8 i41)), (.con (.int .u8 i42)), (.con (.int .u8 i43)), (.con (.int .u8 i44)), (.con (.int .u8 i45)), (.con (.int .u8 i46)), (.con (.int .u8 i47)), (.con (.int .u8 i48)), (.con (.int .u8 i49)), (.con (.int .u8 i50)), (.con (.int .u8 i51)), (.con (.int .u8 i52)), i53]) [[(.row [(.con (.int .u8 i1)), (.con (.int .u8 i2)), (.con (.int .u8 i3)), (.con (.int .u8 i4)), (.con (.int .u8 i5)), (.con (.int .u8 i6)), (.con (.int .u8 i7)), (.con (.int .u8 i8)), (.con (.int .u8 i9)), (.con (.int .u8 i10)), (.con (.int .u8 i11)), (.con (.int .u8 i12)), i13])], [(.row [(.con (.int .u8 i14)), (.con (.int .u8 i15)), (.con (.int .u8 i16)), (.con (.int .u8 i17)), (.con (.int .u8 i18)), (.con (.int .u8 i19)), (.con (.int .u8 i20)), (.con (.int .u8 i21)), (.con (.int .u8 i22)), (.con (.int .u8 i23)), (.con (.int .u8 i24)), (.con (.int .u8 i25)), i26])], [(.row (splice 0 [(.con (.int .u8 i27)), (.con (.int .u8 i28)), (.con (.int .u8 i29)), (.con (.int .u8 i30)), (.con (.int .u8 i31)), (.con (.int .u8 i32)), (.con (.int .u8 i33)), (.con (.int .u8 i34)), (.con (.int .u8 i35)), (.con (.int .u8 i36)), (.con (.int .u8 i37)), (.con (.int .u8 i38)), (IntKind.wrap .i64 (i39 + i40))] [(.con (.int .u8 0)), (.con (.int .u8 0)), (.con (.int .u8 0)), (.con (.int .u8 0)), (.con (.int .u8 0)), (.con (.int .u8 0)), (.con (.int .u8 0)), (.con (.int .u8 0)), (.con (.int .u8 0)), (.con (.int .u8 0)), (.con (.int .u8 0)), (.con (.int .u8 0)), (.con (.int .i64 0))]))]])))))
theorem a43 (i1 i2 i3 i4 i5 i6 i7 i8 i9 i10 i11 i12 i13 i14 i15 i16 i17 i18 i19 i20 i21 i22 i23 i24 i25 i26 : Int) (Q : PV → Heap → Prop) (h : p43 i1 i2 i3 i4 i5 i6 i7 i8 i9 i10 i11 i12 i13 i14 i15 i16 i17 i18 i19 i20 i21 i22 i23 i24 i25 i26 Q) : ACalls Try.prog 43 [(.agg [(.con (.int .u8 i1)), (.con (.int .u8 i2)), (.con (.int .u8 i3)), (.con (.int .u8 i4)), (.con (.int .u8 i5)), (.con (.int .u8 i6)), (.con (.int .u8 i7)), (.con (.int .u8 i8)), (.con (.int .u8 i9)), (.con (.int .u8 i10)), (.con (.int .u8 i11)), (.con (.int .u8 i12)), i13]), (.agg [(.con (.int .u8 i14)), (.con (.int .u8 i15)), (.con (.int .u8 i16)), (.con (.int .u8 i17)), (.con (.int .u8 i18)), (.con (.int .u8 i19)), (.con (.int .u8 i20)), (.con (.int .u8 i21)), (.con (.int .u8 i22)), (.con (.int .u8 i23)), (.con (.int .u8 i24)), (.con (.int .u8 i25)), i26])] [] Q := by
  have hb : Option.some (bodyOf Try.f43) = Try.f43.body := by kernel_rfl
  exact acalls_eq (S := S) (L := loops32) mixed tok Try.func43 hb.symm (by kernel_rfl) h
def p47 (i1 i2 i3 i4 i5 i6 i7 i8 i9 i10 i11 i12 i13 i14 i15 i16 i17 i18 i19 i20 i21 i22 i23 i24 i25 i26 : Int) (Q : PV → Heap → Prop) : Prop :=
∃ (i27 i28 i29 i30 i31 i32 i33 i34 i35 i36 i37 i38 : Int), RowN [(.con (.int .u8 i1)), (.con (.int .u8 i2)), (.con (.int .u8 i3)), (.con (.int .u8 i4)), (.con (.int .u8 i5)), (.con (.int .u8 i6)), (.con (.int .u8 i7)), (.con (.int .u8 i8)), (.con (.int .u8 i9)), (.con (.int .u8 i10)), (.con (.int .u8 i11)), (.con (.int .u8 i12)), i13] 0 [(.con (.int .u8 i27)), (.con (.int .u8 i28)), (.con (.int .u8 i29)), (.con (.int .u8 i30)), (.con (.int .u8 i31)), (.con (.int .u8 i32)), (.con (.int .u8 i33)), (.con (.int .u8 i34)), (.con (.int .u8 i35)), (.con (.int .u8 i36)), (.con (.int .u8 i37)), (.con (.int .u8 i38))]
  (∃ i39 : Int, RowN [(.con (.int .u8 i1)), (.con (.int .u8 i2)), (.con (.int .u8 i3)), (.con (.int .u8 i4)), (.con (.int .u8 i5)), (.con (.int .u8 i6)), (.con (.int .u8 i7)), (.con (.int .u8 i8)), (.con (.int .u8 i9)), (.con (.int .u8 i10)), (.con (.int .u8 i11)), (.con (.int .u8 i12)), i13] 12 [i39]
  (∃ i40 : Int, RowN [(.con (.int .u8 i14)), (.con (.int .u8 i15)), (.con (.int .u8 i16)), (.con (.int .u8 i17)), (.con (.int .u8 i18)), (.con (.int .u8 i19)), (.con (.int .u8 i20)), (.con (.int .u8 i21)), (.con (.int .u8 i22)), (.con (.int .u8 i23)), (.con (.int .u8 i24)), (.con (.int .u8 i25)), i26] 12 [i40]
  (RowW 0 13 (List.length ([(.con (.int .u8 0)), (.con (.int .u8 0)), (.con (.int .u8 0)), (.con (.int .u8 0)), (.con (.int .u8 0)), (.con (.int .u8 0)), (.con (.int .u8 0)), (.con (.int .u8 0)), (.con (.int .u8 0)), (.con (.int .u8 0)), (.con (.int .u8 0)), (.con (.int .u8 0)), (.con (.int .i64 0))] : List PV))
  (∃ (i41 i42 i43 i44 i45 i46 i47 i48 i49 i50 i51 i52 i53 : Int), RowN (splice 0 [(.con (.int .u8 i27)), (.con (.int .u8 i28)), (.con (.int .u8 i29)), (.con (.int .u8 i30)), (.con (.int .u8 i31)), (.con (.int .u8 i32)), (.con (.int .u8 i33)), (.con (.int .u8 i34)), (.con (.int .u8 i35)), (.con (.int .u8 i36)), (.con (.int .u8 i37)), (.con (.int .u8 i38)), (.con (.int .i64 (maxI i39 i40)))] [(.con (.int .u8 0)), (.con (.int .u8 0)), (.con (.int .u8 0)), (.con (.int .u8 0)), (.con (.int .u8 0)), (.con (.int .u8 0)), (.con (.int .u8 0)), (.con (.int .u8 0)), (.con (.int .u8 0)), (.con (.int .u8 0)), (.con (.int .u8 0)), (.con (.int .u8 0)), (.con (.int .i64 0))]) 0 [(.con (.int .u8 i41)), (.con (.int .u8 i42)), (.con (.int .u8 i43)), (.con (.int .u8 i44)), (.con (.int .u8 i45)), (.con (.int .u8 i46)), (.con (.int .u8 i47)), (.con (.int .u8 i48)), (.con (.int .u8 i49)), (.con (.int .u8 i50)), (.con (.int .u8 i51)), (.con (.int .u8 i52)), i53]
  (Q (.agg [(.con (.int .u8 i41)), (.con (.int .u8 i42)), (.con (.int .u8 i43)), (.con (.int .u8 i44)), (.con (.int .u8 i45)), (.con (.int .u8 i46)), (.con (.int .u8 i47)), (.con (.int .u8 i48)), (.con (.int .u8 i49)), (.con (.int .u8 i50)), (.con (.int .u8 i51)), (.con (.int .u8 i52)), i53]) [[(.row [(.con (.int .u8 i1)), (.con (.int .u8 i2)), (.con (.int .u8 i3)), (.con (.int .u8 i4)), (.con (.int .u8 i5)), (.con (.int .u8 i6)), (.con (.int .u8 i7)), (.con (.int .u8 i8)), (.con (.int .u8 i9)), (.con (.int .u8 i10)), (.con (.int .u8 i11)), (.con (.int .u8 i12)), i13])], [(.row [(.con (.int .u8 i14)), (.con (.int .u8 i15)), (.con (.int .u8 i16)), (.con (.int .u8 i17)), (.con (.int .u8 i18)), (.con (.int .u8 i19)), (.con (.int .u8 i20)), (.con (.int .u8 i21)), (.con (.int .u8 i22)), (.con (.int .u8 i23)), (.con (.int .u8 i24)), (.con (.int .u8 i25)), i26])], [(.row (splice 0 [(.con (.int .u8 i27)), (.con (.int .u8 i28)), (.con (.int .u8 i29)), (.con (.int .u8 i30)), (.con (.int .u8 i31)), (.con (.int .u8 i32)), (.con (.int .u8 i33)), (.con (.int .u8 i34)), (.con (.int .u8 i35)), (.con (.int .u8 i36)), (.con (.int .u8 i37)), (.con (.int .u8 i38)), (.con (.int .i64 (maxI i39 i40)))] [(.con (.int .u8 0)), (.con (.int .u8 0)), (.con (.int .u8 0)), (.con (.int .u8 0)), (.con (.int .u8 0)), (.con (.int .u8 0)), (.con (.int .u8 0)), (.con (.int .u8 0)), (.con (.int .u8 0)), (.con (.int .u8 0)), (.con (.int .u8 0)), (.con (.int .u8 0)), (.con (.int .i64 0))]))]])))))
theorem a47 (i1 i2 i3 i4 i5 i6 i7 i8 i9 i10 i11 i12 i13 i14 i15 i16 i17 i18 i19 i20 i21 i22 i23 i24 i25 i26 : Int) (Q : PV → Heap → Prop) (h : p47 i1 i2 i3 i4 i5 i6 i7 i8 i9 i10 i11 i12 i13 i14 i15 i16 i17 i18 i19 i20 i21 i22 i23 i24 i25 i26 Q) : ACalls Try.prog 47 [(.agg [(.con (.int .u8 i1)), (.con (.int .u8 i2)), (.con (.int .u8 i3)), (.con (.int .u8 i4)), (.con (.int .u8 i5)), (.con (.int .u8 i6)), (.con (.int .u8 i7)), (.con (.int .u8 i8)), (.con (.int .u8 i9)), (.con (.int .u8 i10)), (.con (.int .u8 i11)), (.con (.int .u8 i12)), i13]), (.agg [(.con (.int .u8 i14)), (.con (.int .u8 i15)), (.con (.int .u8 i16)), (.con (.int .u8 i17)), (.con (.int .u8 i18)), (.con (.int .u8 i19)), (.con (.int .u8 i20)), (.con (.int .u8 i21)), (.con (.int .u8 i22)), (.con (.int .u8 i23)), (.con (.int .u8 i24)), (.con (.int .u8 i25)), i26])] [] Q := by
  have hb : Option.some (bodyOf Try.f47) = Try.f47.body := by kernel_rfl
  exact acalls_eq (S := S) (L := loops32) mixed tok Try.func47 hb.symm (by kernel_rfl) h
def loops56 (id : Nat) : Option (List Nat × List (Nat × Sh)) := match Nat.beq id 2 with | true => some ([2, 4, 7], [(8, .int .i64), (1000000, .row)]) | false => none
def p56 (i1 i2 i3 i4 i5 i6 i7 i8 i9 i10 i11 i12 i13 i14 i15 i16 i17 i18 i19 i20 i21 i22 i23 i24 : Int) (Q : PV → Heap → Prop) : Prop :=
∃ (i25 i26 i27 i28 i29 i30 i31 i32 i33 i34 i35 i36 : Int), RowN [(.con (.int .u8 i13)), (.con (.int .u8 i14)), (.con (.int .u8 i15)), (.con (.int .u8 i16)), (.con (.int .u8 i17)), (.con (.int .u8 i18)), (.con (.int .u8 i19)), (.con (.int .u8 i20)), (.con (.int .u8 i21)), (.con (.int .u8 i22)), (.con (.int .u8 i23)), (.con (.int .u8 i24))] 0 [(.con (.int .u8 i25)), (.con (.int .u8 i26)), (.con (.int .u8 i27)), (.con (.int .u8 i28)), (.con (.int .u8 i29)), (.con (.int .u8 i30)), (.con (.int .u8 i31)), (.con (.int .u8 i32)), (.con (.int .u8 i33)), (.con (.int .u8 i34)), (.con (.int .u8 i35)), (.con (.int .u8 i36))]
  (∃ I37 : Nat → ((Int) × (List PV) × Unit) → Prop, (∃ n, I37 n (0, [(.con (.int .u8 i1)), (.con (.int .u8 i2)), (.con (.int .u8 i3)), (.con (.int .u8 i4)), (.con (.int .u8 i5)), (.con (.int .u8 i6)), (.con (.int .u8 i7)), (.con (.int .u8 i8)), (.con (.int .u8 i9)), (.con (.int .u8 i10)), (.con (.int .u8 i11)), (.con (.int .u8 i12))], ())) ∧ ∀ (n38 : Nat) (v39 : (Int) × (List PV) × Unit), I37 n38 v39 →
  (br ((decide ((v39.1 : Int) < 12)))
  (IdxR 12 v39.1
  (∃ i40 : Int, RowN [(.con (.int .u8 i25)), (.con (.int .u8 i26)), (.con (.int .u8 i27)), (.con (.int .u8 i28)), (.con (.int .u8 i29)), (.con (.int .u8 i30)), (.con (.int .u8 i31)), (.con (.int .u8 i32)), (.con (.int .u8 i33)), (.con (.int .u8 i34)), (.con (.int .u8 i35)), (.con (.int .u8 i36))] (0 + Int.toNat v39.1 * 1) [(.con (.int .u8 i40))]
  (IdxR 12 v39.1
  (∃ i41 : Int, RowN v39.2.1 (0 + Int.toNat v39.1 * 1) [(.con (.int .u8 i41))]
  (IdxR 12 v39.1
  (RowW (0 + Int.toNat v39.1 * 1) 1 (List.length v39.2.1)
  ((@Eq PV (.ptr 0 0) (.ptr 0 0) ∧ @Eq PV (.ptr 2 0) (.ptr 2 0) ∧ @Eq PV (.agg [(.con (.int .u8 i25)), (.con (.int .u8 i26)), (.con (.int .u8 i27)), (.con (.int .u8 i28)), (.con (.int .u8 i29)), (.con (.int .u8 i30)), (.con (.int .u8 i31)), (.con (.int .u8 i32)), (.con (.int .u8 i33)), (.con (.int .u8 i34)), (.con (.int .u8 i35)), (.con (.int .u8 i36))]) (.agg [(.con (.int .u8 i25)), (.con (.int .u8 i26)), (.con (.int .u8 i27)), (.con (.int .u8 i28)), (.con (.int .u8 i29)), (.con (.int .u8 i30)), (.con (.int .u8 i31)), (.con (.int .u8 i32)), (.con (.int .u8 i33)), (.con (.int .u8 i34)), (.con (.int .u8 i35)), (.con (.int .u8 i36))]) ∧ True) ∧ @Eq Heap [[(.row (splice (0 + Int.toNat v39.1 * 1) [(.con (.int .u8 (IntKind.wrap .u8 (i41 + i40))))] v39.2.1))], [(.row [(.con (.int .u8 i13)), (.con (.int .u8 i14)), (.con (.int .u8 i15)), (.con (.int .u8 i16)), (.con (.int .u8 i17)), (.con (.int .u8 i18)), (.con (.int .u8 i19)), (.con (.int .u8 i20)), (.con (.int .u8 i21)), (.con (.int .u8 i22)), (.con (.int .u8 i23)), (.con (.int .u8 i24))])], [(.row [(.con (.int .u8 0)), (.con (.int .u8 0)), (.con (.int .u8 0)), (.con (.int .u8 0)), (.con (.int .u8 0)), (.con (.int .u8 0)), (.con (.int .u8 0)), (.con (.int .u8 0)), (.con (.int .u8 0)), (.con (.int .u8 0)), (.con (.int .u8 0)), (.con (.int .u8 0))])]] [[(.row (splice (0 + Int.toNat v39.1 * 1) [(.con (.int .u8 (IntKind.wrap .u8 (i41 + i40))))] v39.2.1))], [(.row [(.con (.int .u8 i13)), (.con (.int .u8 i14)), (.con (.int .u8 i15)), (.con (.int .u8 i16)), (.con (.int .u8 i17)), (.con (.int .u8 i18)), (.con (.int .u8 i19)), (.con (.int .u8 i20)), (.con (.int .u8 i21)), (.con (.int .u8 i22)), (.con (.int .u8 i23)), (.con (.int .u8 i24))])], [(.row [(.con (.int .u8 0)), (.con (.int .u8 0)), (.con (.int .u8 0)), (.con (.int .u8 0)), (.con (.int .u8 0)), (.con (.int .u8 0)), (.con (.int .u8 0)), (.con (.int .u8 0)), (.con (.int .u8 0)), (.con (.int .u8 0)), (.con (.int .u8 0)), (.con (.int .u8 0))])]] ∧ ∃ k42, k42 < n38 ∧ I37 k42 ((IntKind.wrap .i64 (v39.1 + 1)), (splice (0 + Int.toNat v39.1 * 1) [(.con (.int .u8 (IntKind.wrap .u8 (i41 + i40))))] v39.2.1), ()))))))))
  (∃ (i43 i44 i45 i46 i47 i48 i49 i50 i51 i52 i53 i54 : Int), RowN v39.2.1 0 [(.con (.int .u8 i43)), (.con (.int .u8 i44)), (.con (.int .u8 i45)), (.con (.int .u8 i46)), (.con (.int .u8 i47)), (.con (.int .u8 i48)), (.con (.int .u8 i49)), (.con (.int .u8 i50)), (.con (.int .u8 i51)), (.con (.int .u8 i52)), (.con (.int .u8 i53)), (.con (.int .u8 i54))]
  (RowW 0 12 (List.length ([(.con (.int .u8 0)), (.con (.int .u8 0)), (.con (.int .u8 0)), (.con (.int .u8 0)), (.con (.int .u8 0)), (.con (.int .u8 0)), (.con (.int .u8 0)), (.con (.int .u8 0)), (.con (.int .u8 0)), (.con (.int .u8 0)), (.con (.int .u8 0)), (.con (.int .u8 0))] : List PV))
  (∃ (i55 i56 i57 i58 i59 i60 i61 i62 i63 i64 i65 i66 : Int), RowN (splice 0 [(.con (.int .u8 i43)), (.con (.int .u8 i44)), (.con (.int .u8 i45)), (.con (.int .u8 i46)), (.con (.int .u8 i47)), (.con (.int .u8 i48)), (.con (.int .u8 i49)), (.con (.int .u8 i50)), (.con (.int .u8 i51)), (.con (.int .u8 i52)), (.con (.int .u8 i53)), (.con (.int .u8 i54))] [(.con (.int .u8 0)), (.con (.int .u8 0)), (.con (.int .u8 0)), (.con (.int .u8 0)), (.con (.int .u8 0)), (.con (.int .u8 0)), (.con (.int .u8 0)), (.con (.int .u8 0)), (.con (.int .u8 0)), (.con (.int .u8 0)), (.con (.int .u8 0)), (.con (.int .u8 0))]) 0 [(.con (.int .u8 i55)), (.con (.int .u8 i56)), (.con (.int .u8 i57)), (.con (.int .u8 i58)), (.con (.int .u8 i59)), (.con (.int .u8 i60)), (.con (.int .u8 i61)), (.con (.int .u8 i62)), (.con (.int .u8 i63)), (.con (.int .u8 i64)), (.con (.int .u8 i65)), (.con (.int .u8 i66))]
  (Q (.agg [(.con (.int .u8 i55)), (.con (.int .u8 i56)), (.con (.int .u8 i57)), (.con (.int .u8 i58)), (.con (.int .u8 i59)), (.con (.int .u8 i60)), (.con (.int .u8 i61)), (.con (.int .u8 i62)), (.con (.int .u8 i63)), (.con (.int .u8 i64)), (.con (.int .u8 i65)), (.con (.int .u8 i66))]) [[(.row v39.2.1)], [(.row [(.con (.int .u8 i13)), (.con (.int .u8 i14)), (.con (.int .u8 i15)), (.con (.int .u8 i16)), (.con (.int .u8 i17)), (.con (.int .u8 i18)), (.con (.int .u8 i19)), (.con (.int .u8 i20)), (.con (.int .u8 i21)), (.con (.int .u8 i22)), (.con (.int .u8 i23)), (.con (.int .u8 i24))])], [(.row (splice 0 [(.con (.int .u8 i43)), (.con (.int .u8 i44)), (.con (.int .u8 i45)), (.con (.int .u8 i46)), (.con (.int .u8 i47)), (.con (.int .u8 i48)), (.con (.int .u8 i49)), (.con (.int .u8 i50)), (.con (.int .u8 i51)), (.con (.int .u8 i52)), (.con (.int .u8 i53)), (.con (.int .u8 i54))] [(.con (.int .u8 0)), (.con (.int .u8 0)), (.con (.int .u8 0)), (.con (.int .u8 0)), (.con (.int .u8 0)), (.con (.int .u8 0)), (.con (.int .u8 0)), (.con (.int .u8 0)), (.con (.int .u8 0)), (.con (.int .u8 0)), (.con (.int .u8 0)), (.con (.int .u8 0))]))]]))))))
theorem a56 (i1 i2 i3 i4 i5 i6 i7 i8 i9 i10 i11 i12 i13 i14 i15 i16 i17 i18 i19 i20 i21 i22 i23 i24 : Int) (Q : PV → Heap → Prop) (h : p56 i1 i2 i3 i4 i5 i6 i7 i8 i9 i10 i11 i12 i13 i14 i15 i16 i17 i18 i19 i20 i21 i22 i23 i24 Q) : ACalls Try.prog 56 [(.agg [(.con (.int .u8 i1)), (.con (.int .u8 i2)), (.con (.int .u8 i3)), (.con (.int .u8 i4)), (.con (.int .u8 i5)), (.con (.int .u8 i6)), (.con (.int .u8 i7)), (.con (.int .u8 i8)), (.con (.int .u8 i9)), (.con (.int .u8 i10)), (.con (.int .u8 i11)), (.con (.int .u8 i12))]), (.agg [(.con (.int .u8 i13)), (.con (.int .u8 i14)), (.con (.int .u8 i15)), (.con (.int .u8 i16)), (.con (.int .u8 i17)), (.con (.int .u8 i18)), (.con (.int .u8 i19)), (.con (.int .u8 i20)), (.con (.int .u8 i21)), (.con (.int .u8 i22)), (.con (.int .u8 i23)), (.con (.int .u8 i24))])] [] Q := by
  have hb : Option.some (bodyOf Try.f56) = Try.f56.body := by kernel_rfl
  exact acalls_eq (S := S) (L := loops56) mixed tok Try.func56 hb.symm (by kernel_rfl) h
def p49 (i1 i2 : Int) (Q : PV → Heap → Prop) : Prop :=
br ((decide ((i2 : Int) > 0)))
  (QuoN i2
  (br ((decide ((i1 : Int) > (IntKind.wrap .i64 (Int.tdiv 1099511627776 i2)))))
  (Q (.con (.int .i64 1099511627777)) [])
  (Q (IntKind.wrap .i64 (i1 * i2)) [])))
  (Q (IntKind.wrap .i64 (i1 * i2)) [])
theorem a49 (i1 i2 : Int) (Q : PV → Heap → Prop) (h : p49 i1 i2 Q) : ACalls Try.prog 49 [i1, i2] [] Q := by
  have hb : Option.some (bodyOf Try.f49) = Try.f49.body := by kernel_rfl
  exact acalls_eq (S := S) (L := loops32) mixed tok Try.func49 hb.symm (by kernel_rfl) h
def p50 (i1 : Int) (l2 : List (List PV)) (Q : PV → Heap → Prop) : Prop :=
br ((decide ((i1 : Int) ≥ (List.length l2 : Int))))
  (Q (.con (.int .i64 0)) [])
  (∃ i3 : Int, IdxN l2 i1 [i3]
  (Q (.con (.int .i64 (maxI i3 0))) []))
theorem a50 (i1 : Int) (l2 : List (List PV)) (Q : PV → Heap → Prop) (h : p50 i1 l2 Q) : ACalls Try.prog 50 [i1, l2] [] Q := by
  have hb : Option.some (bodyOf Try.f50) = Try.f50.body := by kernel_rfl
  exact acalls_eq (S := S) (L := loops32) mixed tok Try.func50 hb.symm (by kernel_rfl) h
def p34 (l1 : List (List PV)) (Q : PV → Heap → Prop) : Prop :=
∃ b2 : Bool, CallN Try.prog 19 [l1] [] b2
  (br ((!b2))
  (Q (.tup [(.con (.slice none 0 0)), (.con (.int .i64 17))]) [])
  (Q (.tup [l1, (.con (.int .i64 0))]) []))
theorem a34 (l1 : List (List PV)) (Q : PV → Heap → Prop) (h : p34 l1 Q) : ACalls Try.prog 34 [l1] [] Q := by
  have hb : Option.some (bodyOf Try.f34) = Try.f34.body := by kernel_rfl
  exact acalls_eq (S := S) (L := loops32) mixed tok Try.func34 hb.symm (by kernel_rfl) h
def p57 (i1 : Int) (l2 : List (List PV)) (Q : PV → Heap → Prop) : Prop :=
br ((decide ((i1 : Int) < (List.length l2 : Int))))
  (∃ l3 : List (List PV), IdxN l2 i1 [l3]
  (Q l3 []))
  (∃ (l4 : LL) (i5 : Int), CallN Try.prog 13 [i1] [] (.tup [l4, i5])
  (Q l4 []))
theorem a57 (i1 : Int) (l2 : List (List PV)) (Q : PV → Heap → Prop) (h : p57 i1 l2 Q) : ACalls Try.prog 57 [i1, l2] [] Q := by
  have hb : Option.some (bodyOf Try.f57) = Try.f57.body := by kernel_rfl
  exact acalls_eq (S := S) (L := loops32) mixed tok Try.func57 hb.symm (by kernel_rfl) h
def loops48 (id : Nat) : Option (List Nat × List (Nat × Sh)) := match Nat.beq id 6 with | true => some ([1, 8, 17, 18, 22], [(6, .list), (7, .int .i64), (23, .int .u8)]) | false => match Nat.beq id 3 with | true => some ([1, 17], [(6, .list), (7, .int .i64), (18, .int .i64)]) | false => none
def p48 (i1 i2 i3 i4 i5 i6 i7 i8 i9 i10 i11 i12 i13 : Int) (l14 : List (List PV)) (Q : PV → Heap → Prop) : Prop :=
∃ i15 : Int, RowN [(.con (.int .u8 i1)), (.con (.int .u8 i2)), (.con (.int .u8 i3)), (.con (.int .u8 i4)), (.con (.int .u8 i5)), (.con (.int .u8 i6)), (.con (.int .u8 i7)), (.con (.int .u8 i8)), (.con (.int .u8 i9)), (.con (.int .u8 i10)), (.con (.int .u8 i11)), (.con (.int .u8 i12)), i13] 12 [i15]
  (∃ (l16 : LL) (i17 : Int), CallN Try.prog 11 [i15] [[(.row [(.con (.int .u8 i1)), (.con (.int .u8 i2)), (.con (.int .u8 i3)), (.con (.int .u8 i4)), (.con (.int .u8 i5)), (.con (.int .u8 i6)), (.con (.int .u8 i7)), (.con (.int .u8 i8)), (.con (.int .u8 i9)), (.con (.int .u8 i10)), (.con (.int .u8 i11)), (.con (.int .u8 i12)), i13])]] (.tup [l16, i17])
  (∃ (i18 i19 i20 i21 i22 i23 i24 i25 i26 i27 i28 i29 : Int), RowN [(.con (.int .u8 i1)), (.con (.int .u8 i2)), (.con (.int .u8 i3)), (.con (.int .u8 i4)), (.con (.int .u8 i5)), (.con (.int .u8 i6)), (.con (.int .u8 i7)), (.con (.int .u8 i8)), (.con (.int .u8 i9)), (.con (.int .u8 i10)), (.con (.int .u8 i11)), (.con (.int .u8 i12)), i13] 0 [(.con (.int .u8 i18)), (.con (.int .u8 i19)), (.con (.int .u8 i20)), (.con (.int .u8 i21)), (.con (.int .u8 i22)), (.con (.int .u8 i23)), (.con (.int .u8 i24)), (.con (.int .u8 i25)), (.con (.int .u8 i26)), (.con (.int .u8 i27)), (.con (.int .u8 i28)), (.con (.int .u8 i29))]
  (∃ I30 : Nat → ((List (List PV)) × (Int) × (Int) × Unit) → Prop, (∃ n, I30 n (l16, i17, 0, ())) ∧ ∀ (n31 : Nat) (v32 : (List (List PV)) × (Int) × (Int) × Unit), I30 n31 v32 →
  (br ((decide ((v32.2.2.1 : Int) < 12)))
  (IdxR 12 v32.2.2.1
  (∃ i33 : Int, RowN [(.con (.int .u8 i18)), (.con (.int .u8 i19)), (.con (.int .u8 i20)), (.con (.int .u8 i21)), (.con (.int .u8 i22)), (.con (.int .u8 i23)), (.con (.int .u8 i24)), (.con (.int .u8 i25)), (.con (.int .u8 i26)), (.con (.int .u8 i27)), (.con (.int .u8 i28)), (.con (.int .u8 i29))] (0 + Int.toNat v32.2.2.1 * 1) [(.con (.int .u8 i33))]
  (∃ I34 : Nat → ((List (List PV)) × (Int) × (Int) × Unit) → Prop, (∃ n, I34 n (v32.1, v32.2.1, 0, ())) ∧ ∀ (n35 : Nat) (v36 : (List (List PV)) × (Int) × (Int) × Unit), I34 n35 v36 →
  (br ((decide ((v36.2.2.1 : Int) < i33)))
  (br (((v36.2.1 : Int) == 0))
  (∃ l37 : List (List PV), CallN Try.prog 57 [v32.2.2.1, l14] [[(.row [(.con (.int .u8 i1)), (.con (.int .u8 i2)), (.con (.int .u8 i3)), (.con (.int .u8 i4)), (.con (.int .u8 i5)), (.con (.int .u8 i6)), (.con (.int .u8 i7)), (.con (.int .u8 i8)), (.con (.int .u8 i9)), (.con (.int .u8 i10)), (.con (.int .u8 i11)), (.con (.int .u8 i12)), i13])]] l37
  (∃ (l38 : LL) (i39 : Int), CallN Try.prog 26 [v36.1, l37] [[(.row [(.con (.int .u8 i1)), (.con (.int .u8 i2)), (.con (.int .u8 i3)), (.con (.int .u8 i4)), (.con (.int .u8 i5)), (.con (.int .u8 i6)), (.con (.int .u8 i7)), (.con (.int .u8 i8)), (.con (.int .u8 i9)), (.con (.int .u8 i10)), (.con (.int .u8 i11)), (.con (.int .u8 i12)), i13])]] (.tup [l38, i39])
  ((@Eq PV l14 l14 ∧ @Eq PV v32.2.2.1 v32.2.2.1 ∧ @Eq PV (.agg [(.con (.int .u8 i18)), (.con (.int .u8 i19)), (.con (.int .u8 i20)), (.con (.int .u8 i21)), (.con (.int .u8 i22)), (.con (.int .u8 i23)), (.con (.int .u8 i24)), (.con (.int .u8 i25)), (.con (.int .u8 i26)), (.con (.int .u8 i27)), (.con (.int .u8 i28)), (.con (.int .u8 i29))]) (.agg [(.con (.int .u8 i18)), (.con (.int .u8 i19)), (.con (.int .u8 i20)), (.con (.int .u8 i21)), (.con (.int .u8 i22)), (.con (.int .u8 i23)), (.con (.int .u8 i24)), (.con (.int .u8 i25)), (.con (.int .u8 i26)), (.con (.int .u8 i27)), (.con (.int .u8 i28)), (.con (.int .u8 i29))]) ∧ @Eq PV v32.2.2.1 v32.2.2.1 ∧ @Eq PV (.con (.int .u8 i33)) (.con (.int .u8 i33)) ∧ True) ∧ @Eq Heap [[(.row [(.con (.int .u8 i1)), (.con (.int .u8 i2)), (.con (.int .u8 i3)), (.con (.int .u8 i4)), (.con (.int .u8 i5)), (.con (.int .u8 i6)), (.con (.int .u8 i7)), (.con (.int .u8 i8)), (.con (.int .u8 i9)), (.con (.int .u8 i10)), (.con (.int .u8 i11)), (.con (.int .u8 i12)), i13])]] [[(.row [(.con (.int .u8 i1)), (.con (.int .u8 i2)), (.con (.int .u8 i3)), (.con (.int .u8 i4)), (.con (.int .u8 i5)), (.con (.int .u8 i6)), (.con (.int .u8 i7)), (.con (.int .u8 i8)), (.con (.int .u8 i9)), (.con (.int .u8 i10)), (.con (.int .u8 i11)), (.con (.int .u8 i12)), i13])]] ∧ ∃ k40, k40 < n35 ∧ I34 k40 (l38, i39, (IntKind.wrap .u8 (v36.2.2.1 + 1)), ()))))
  ((@Eq PV l14 l14 ∧ @Eq PV v32.2.2.1 v32.2.2.1 ∧ @Eq PV (.agg [(.con (.int .u8 i18)), (.con (.int .u8 i19)), (.con (.int .u8 i20)), (.con (.int .u8 i21)), (.con (.int .u8 i22)), (.con (.int .u8 i23)), (.con (.int .u8 i24)), (.con (.int .u8 i25)), (.con (.int .u8 i26)), (.con (.int .u8 i27)), (.con (.int .u8 i28)), (.con (.int .u8 i29))]) (.agg [(.con (.int .u8 i18)), (.con (.int .u8 i19)), (.con (.int .u8 i20)), (.con (.int .u8 i21)), (.con (.int .u8 i22)), (.con (.int .u8 i23)), (.con (.int .u8 i24)), (.con (.int .u8 i25)), (.con (.int .u8 i26)), (.con (.int .u8 i27)), (.con (.int .u8 i28)), (.con (.int .u8 i29))]) ∧ @Eq PV v32.2.2.1 v32.2.2.1 ∧ @Eq PV (.con (.int .u8 i33)) (.con (.int .u8 i33)) ∧ True) ∧ @Eq Heap [[(.row [(.con (.int .u8 i1)), (.con (.int .u8 i2)), (.con (.int .u8 i3)), (.con (.int .u8 i4)), (.con (.int .u8 i5)), (.con (.int .u8 i6)), (.con (.int .u8 i7)), (.con (.int .u8 i8)), (.con (.int .u8 i9)), (.con (.int .u8 i10)), (.con (.int .u8 i11)), (.con (.int .u8 i12)), i13])]] [[(.row [(.con (.int .u8 i1)), (.con (.int .u8 i2)), (.con (.int .u8 i3)), (.con (.int .u8 i4)), (.con (.int .u8 i5)), (.con (.int .u8 i6)), (.con (.int .u8 i7)), (.con (.int .u8 i8)), (.con (.int .u8 i9)), (.con (.int .u8 i10)), (.con (.int .u8 i11)), (.con (.int .u8 i12)), i13])]] ∧ ∃ k41, k41 < n35 ∧ I34 k41 (v36.1, v36.2.1, (IntKind.wrap .u8 (v36.2.2.1 + 1)), ())))
  ((@Eq PV l14 l14 ∧ @Eq PV (.agg [(.con (.int .u8 i18)), (.con (.int .u8 i19)), (.con (.int .u8 i20)), (.con (.int .u8 i21)), (.con (.int .u8 i22)), (.con (.int .u8 i23)), (.con (.int .u8 i24)), (.con (.int .u8 i25)), (.con (.int .u8 i26)), (.con (.int .u8 i27)), (.con (.int .u8 i28)), (.con (.int .u8 i29))]) (.agg [(.con (.int .u8 i18)), (.con (.int .u8 i19)), (.con (.int .u8 i20)), (.con (.int .u8 i21)), (.con (.int .u8 i22)), (.con (.int .u8 i23)), (.con (.int .u8 i24)), (.con (.int .u8 i25)), (.con (.int .u8 i26)), (.con (.int .u8 i27)), (.con (.int .u8 i28)), (.con (.int .u8 i29))]) ∧ True) ∧ @Eq Heap [[(.row [(.con (.int .u8 i1)), (.con (.int .u8 i2)), (.con (.int .u8 i3)), (.con (.int .u8 i4)), (.con (.int .u8 i5)), (.con (.int .u8 i6)), (.con (.int .u8 i7)), (.con (.int .u8 i8)), (.con (.int .u8 i9)), (.con (.int .u8 i10)), (.con (.int .u8 i11)), (.con (.int .u8 i12)), i13])]] [[(.row [(.con (.int .u8 i1)), (.con (.int .u8 i2)), (.con (.int .u8 i3)), (.con (.int .u8 i4)), (.con (.int .u8 i5)), (.con (.int .u8 i6)), (.con (.int .u8 i7)), (.con (.int .u8 i8)), (.con (.int .u8 i9)), (.con (.int .u8 i10)), (.con (.int .u8 i11)), (.con (.int .u8 i12)), i13])]] ∧ ∃ k42, k42 < n31 ∧ I30 k42 (v36.1, v36.2.1, (IntKind.wrap .i64 (v32.2.2.1 + 1)), ()))))))
  (Q (.tup [v32.1, v32.2.1]) [[(.row [(.con (.int .u8 i1)), (.con (.int .u8 i2)), (.con (.int .u8 i3)), (.con (.int .u8 i4)), (.con (.int .u8 i5)), (.con (.int .u8 i6)), (.con (.int .u8 i7)), (.con (.int .u8 i8)), (.con (.int .u8 i9)), (.con (.int .u8 i10)), (.con (.int .u8 i11)), (.con (.int .u8 i12)), i13])]])))))
theorem a48 (i1 i2 i3 i4 i5 i6 i7 i8 i9 i10 i11 i12 i13 : Int) (l14 : List (List PV)) (Q : PV → Heap → Prop) (h : p48 i1 i2 i3 i4 i5 i6 i7 i8 i9 i10 i11 i12 i13 l14 Q) : ACalls Try.prog 48 [(.agg [(.con (.int .u8 i1)), (.con (.int .u8 i2)), (.con (.int .u8 i3)), (.con (.int .u8 i4)), (.con (.int .u8 i5)), (.con (.int .u8 i6)), (.con (.int .u8 i7)), (.con (.int .u8 i8)), (.con (.int .u8 i9)), (.con (.int .u8 i10)), (.con (.int .u8 i11)), (.con (.int .u8 i12)), i13]), l14] [] Q := by
  have hb : Option.some (bodyOf Try.f48) = Try.f48.body := by kernel_rfl
  exact acalls_eq (S := S) (L := loops48) mixed tok Try.func48 hb.symm (by kernel_rfl) h
def loops36 (id : Nat) : Option (List Nat × List (Nat × Sh)) := match Nat.beq id 6 with | true => some ([1, 6, 11, 12, 16], [(5, .int .i64), (17, .int .u8)]) | false => match Nat.beq id 3 with | true => some ([1, 11], [(5, .int .i64), (12, .int .i64)]) | false => none
def p36 (i1 i2 i3 i4 i5 i6 i7 i8 i9 i10 i11 i12 i13 : Int) (l14 : List (List PV)) (Q : PV → Heap → Prop) : Prop :=
∃ i15 : Int, RowN [(.con (.int .u8 i1)), (.con (.int .u8 i2)), (.con (.int .u8 i3)), (.con (.int .u8 i4)), (.con (.int .u8 i5)), (.con (.int .u8 i6)), (.con (.int .u8 i7)), (.con (.int .u8 i8)), (.con (.int .u8 i9)), (.con (.int .u8 i10)), (.con (.int .u8 i11)), (.con (.int .u8 i12)), i13] 12 [i15]
  (∃ (i16 i17 i18 i19 i20 i21 i22 i23 i24 i25 i26 i27 : Int), RowN [(.con (.int .u8 i1)), (.con (.int .u8 i2)), (.con (.int .u8 i3)), (.con (.int .u8 i4)), (.con (.int .u8 i5)), (.con (.int .u8 i6)), (.con (.int .u8 i7)), (.con (.int .u8 i8)), (.con (.int .u8 i9)), (.con (.int .u8 i10)), (.con (.int .u8 i11)), (.con (.int .u8 i12)), i13] 0 [(.con (.int .u8 i16)), (.con (.int .u8 i17)), (.con (.int .u8 i18)), (.con (.int .u8 i19)), (.con (.int .u8 i20)), (.con (.int .u8 i21)), (.con (.int .u8 i22)), (.con (.int .u8 i23)), (.con (.int .u8 i24)), (.con (.int .u8 i25)), (.con (.int .u8 i26)), (.con (.int .u8 i27))]
  (∃ I28 : Nat → ((Int) × (Int) × Unit) → Prop, (∃ n, I28 n (i15, 0, ())) ∧ ∀ (n29 : Nat) (v30 : (Int) × (Int) × Unit), I28 n29 v30 →
  (br ((decide ((v30.2.1 : Int) < 12)))
  (IdxR 12 v30.2.1
  (∃ i31 : Int, RowN [(.con (.int .u8 i16)), (.con (.int .u8 i17)), (.con (.int .u8 i18)), (.con (.int .u8 i19)), (.con (.int .u8 i20)), (.con (.int .u8 i21)), (.con (.int .u8 i22)), (.con (.int .u8 i23)), (.con (.int .u8 i24)), (.con (.int .u8 i25)), (.con (.int .u8 i26)), (.con (.int .u8 i27))] (0 + Int.toNat v30.2.1 * 1) [(.con (.int .u8 i31))]
  (∃ I32 : Nat → ((Int) × (Int) × Unit) → Prop, (∃ n, I32 n (v30.1, 0, ())) ∧ ∀ (n33 : Nat) (v34 : (Int) × (Int) × Unit), I32 n33 v34 →
  (br ((decide ((v34.2.1 : Int) < i31)))
  (∃ i35 : Int, CallN Try.prog 50 [v30.2.1, l14] [[(.row [(.con (.int .u8 i1)), (.con (.int .u8 i2)), (.con (.int .u8 i3)), (.con (.int .u8 i4)), (.con (.int .u8 i5)), (.con (.int .u8 i6)), (.con (.int .u8 i7)), (.con (.int .u8 i8)), (.con (.int .u8 i9)), (.con (.int .u8 i10)), (.con (.int .u8 i11)), (.con (.int .u8 i12)), i13])]] i35
  (∃ i36 : Int, CallN Try.prog 49 [v34.1, i35] [[(.row [(.con (.int .u8 i1)), (.con (.int .u8 i2)), (.con (.int .u8 i3)), (.con (.int .u8 i4)), (.con (.int .u8 i5)), (.con (.int .u8 i6)), (.con (.int .u8 i7)), (.con (.int .u8 i8)), (.con (.int .u8 i9)), (.con (.int .u8 i10)), (.con (.int .u8 i11)), (.con (.int .u8 i12)), i13])]] i36
  ((@Eq PV l14 l14 ∧ @Eq PV v30.2.1 v30.2.1 ∧ @Eq PV (.agg [(.con (.int .u8 i16)), (.con (.int .u8 i17)), (.con (.int .u8 i18)), (.con (.int .u8 i19)), (.con (.int .u8 i20)), (.con (.int .u8 i21)), (.con (.int .u8 i22)), (.con (.int .u8 i23)), (.con (.int .u8 i24)), (.con (.int .u8 i25)), (.con (.int .u8 i26)), (.con (.int .u8 i27))]) (.agg [(.con (.int .u8 i16)), (.con (.int .u8 i17)), (.con (.int .u8 i18)), (.con (.int .u8 i19)), (.con (.int .u8 i20)), (.con (.int .u8 i21)), (.con (.int .u8 i22)), (.con (.int .u8 i23)), (.con (.int .u8 i24)), (.con (.int .u8 i25)), (.con (.int .u8 i26)), (.con (.int .u8 i27))]) ∧ @Eq PV v30.2.1 v30.2.1 ∧ @Eq PV (.con (.int .u8 i31)) (.con (.int .u8 i31)) ∧ True) ∧ @Eq Heap [[(.row [(.con (.int .u8 i1)), (.con (.int .u8 i2)), (.con (.int .u8 i3)), (.con (.int .u8 i4)), (.con (.int .u8 i5)), (.con (.int .u8 i6)), (.con (.int .u8 i7)), (.con (.int .u8 i8)), (.con (.int .u8 i9)), (.con (.int .u8 i10)), (.con (.int .u8 i11)), (.con (.int .u8 i12)), i13])]] [[(.row [(.con (.int .u8 i1)), (.con (.int .u8 i2)), (.con (.int .u8 i3)), (.con (.int .u8 i4)), (.con (.int .u8 i5)), (.con (.int .u8 i6)), (.con (.int .u8 i7)), (.con (.int .u8 i8)), (.con (.int .u8 i9)), (.con (.int .u8 i10)), (.con (.int .u8 i11)), (.con (.int .u8 i12)), i13])]] ∧ ∃ k37, k37 < n33 ∧ I32 k37 (i36, (IntKind.wrap .u8 (v34.2.1 + 1)), ()))))
  ((@Eq PV l14 l14 ∧ @Eq PV (.agg [(.con (.int .u8 i16)), (.con (.int .u8 i17)), (.con (.int .u8 i18)), (.con (.int .u8 i19)), (.con (.int .u8 i20)), (.con (.int .u8 i21)), (.con (.int .u8 i22)), (.con (.int .u8 i23)), (.con (.int .u8 i24)), (.con (.int .u8 i25)), (.con (.int .u8 i26)), (.con (.int .u8 i27))]) (.agg [(.con (.int .u8 i16)), (.con (.int .u8 i17)), (.con (.int .u8 i18)), (.con (.int .u8 i19)), (.con (.int .u8 i20)), (.con (.int .u8 i21)), (.con (.int .u8 i22)), (.con (.int .u8 i23)), (.con (.int .u8 i24)), (.con (.int .u8 i25)), (.con (.int .u8 i26)), (.con (.int .u8 i27))]) ∧ True) ∧ @Eq Heap [[(.row [(.con (.int .u8 i1)), (.con (.int .u8 i2)), (.con (.int .u8 i3)), (.con (.int .u8 i4)), (.con (.int .u8 i5)), (.con (.int .u8 i6)), (.con (.int .u8 i7)), (.con (.int .u8 i8)), (.con (.int .u8 i9)), (.con (.int .u8 i10)), (.con (.int .u8 i11)), (.con (.int .u8 i12)), i13])]] [[(.row [(.con (.int .u8 i1)), (.con (.int .u8 i2)), (.con (.int .u8 i3)), (.con (.int .u8 i4)), (.con (.int .u8 i5)), (.con (.int .u8 i6)), (.con (.int .u8 i7)), (.con (.int .u8 i8)), (.con (.int .u8 i9)), (.con (.int .u8 i10)), (.con (.int .u8 i11)), (.con (.int .u8 i12)), i13])]] ∧ ∃ k38, k38 < n29 ∧ I28 k38 (v34.1, (IntKind.wrap .i64 (v30.2.1 + 1)), ()))))))
  (Q v30.1 [[(.row [(.con (.int .u8 i1)), (.con (.int .u8 i2)), (.con (.int .u8 i3)), (.con (.int .u8 i4)), (.con (.int .u8 i5)), (.con (.int .u8 i6)), (.con (.int .u8 i7)), (.con (.int .u8 i8)), (.con (.int .u8 i9)), (.con (.int .u8 i10)), (.con (.int .u8 i11)), (.con (.int .u8 i12)), i13])]]))))
theorem a36 (i1 i2 i3 i4 i5 i6 i7 i8 i9 i10 i11 i12 i13 : Int) (l14 : List (List PV)) (Q : PV → Heap → Prop) (h : p36 i1 i2 i3 i4 i5 i6 i7 i8 i9 i10 i11 i12 i13 l14 Q) : ACalls Try.prog 36 [(.agg [(.con (.int .u8 i1)), (.con (.int .u8 i2)), (.con (.int .u8 i3)), (.con (.int .u8 i4)), (.con (.int .u8 i5)), (.con (.int .u8 i6)), (.con (.int .u8 i7)), (.con (.int .u8 i8)), (.con (.int .u8 i9)), (.con (.int .u8 i10)), (.con (.int .u8 i11)), (.con (.int .u8 i12)), i13]), l14] [] Q := by
  have hb : Option.some (bodyOf Try.f36) = Try.f36.body := by kernel_rfl
  exact acalls_eq (S := S) (L := loops36) mixed tok Try.func36 hb.symm (by kernel_rfl) h
def p11 (i1 : Int) (Q : PV → Heap → Prop) : Prop :=
br ((decide ((i1 : Int) < 1)))
  (Q (.tup [(.con (.slice none 0 0)), (.con (.int .i64 0))]) [])
  (∃ (l2 : LL) (i3 : Int), CallN Try.prog 34 [(.sl [[(.con (.int .u8 0)), (.con (.int .u8 0)), (.con (.int .u8 0)), (.con (.int .u8 0)), (.con (.int .u8 0)), (.con (.int .u8 0)), (.con (.int .u8 0)), (.con (.int .u8 0)), (.con (.int .u8 0)), (.con (.int .u8 0)), (.con (.int .u8 0)), (.con (.int .u8 0)), i1]])] [[.tip]] (.tup [l2, i3])
  (Q (.tup [l2, i3]) [[.tip]]))
theorem a11 (i1 : Int) (Q : PV → Heap → Prop) (h : p11 i1 Q) : ACalls Try.prog 11 [i1] [] Q := by
  have hb : Option.some (bodyOf Try.f11) = Try.f11.body := by kernel_rfl
  exact acalls_eq (S := S) (L := loops32) mixed tok Try.func11 hb.symm (by kernel_rfl) h
def p13 (i1 : Int) (Q : PV → Heap → Prop) : Prop :=
∃ b2 : Bool, CallN Try.prog 35 [i1] [] b2
  (br ((!b2))
  (Q (.tup [(.con (.slice none 0 0)), (.con (.int .i64 20))]) [])
  (RowW 0 13 (List.length ([(.con (.int .u8 0)), (.con (.int .u8 0)), (.con (.int .u8 0)), (.con (.int .u8 0)), (.con (.int .u8 0)), (.con (.int .u8 0)), (.con (.int .u8 0)), (.con (.int .u8 0)), (.con (.int .u8 0)), (.con (.int .u8 0)), (.con (.int .u8 0)), (.con (.int .u8 0)), (.con (.int .i64 0))] : List PV))
  (IdxR 12 i1
  (RowW (0 + Int.toNat i1 * 1) 1 (List.length (splice 0 [(.con (.int .u8 0)), (.con (.int .u8 0)), (.con (.int .u8 0)), (.con (.int .u8 0)), (.con (.int .u8 0)), (.con (.int .u8 0)), (.con (.int .u8 0)), (.con (.int .u8 0)), (.con (.int .u8 0)), (.con (.int .u8 0)), (.con (.int .u8 0)), (.con (.int .u8 0)), (.con (.int .i64 1))] [(.con (.int .u8 0)), (.con (.int .u8 0)), (.con (.int .u8 0)), (.con (.int .u8 0)), (.con (.int .u8 0)), (.con (.int .u8 0)), (.con (.int .u8 0)), (.con (.int .u8 0)), (.con (.int .u8 0)), (.con (.int .u8 0)), (.con (.int .u8 0)), (.con (.int .u8 0)), (.con (.int .i64 0))]))
  (∃ (i3 i4 i5 i6 i7 i8 i9 i10 i11 i12 i13 i14 i15 : Int), RowN (splice (0 + Int.toNat i1 * 1) [(.con (.int .u8 1))] (splice 0 [(.con (.int .u8 0)), (.con (.int .u8 0)), (.con (.int .u8 0)), (.con (.int .u8 0)), (.con (.int .u8 0)), (.con (.int .u8 0)), (.con (.int .u8 0)), (.con (.int .u8 0)), (.con (.int .u8 0)), (.con (.int .u8 0)), (.con (.int .u8 0)), (.con (.int .u8 0)), (.con (.int .i64 1))] [(.con (.int .u8 0)), (.con (.int .u8 0)), (.con (.int .u8 0)), (.con (.int .u8 0)), (.con (.int .u8 0)), (.con (.int .u8 0)), (.con (.int .u8 0)), (.con (.int .u8 0)), (.con (.int .u8 0)), (.con (.int .u8 0)), (.con (.int .u8 0)), (.con (.int .u8 0)), (.con (.int .i64 0))])) 0 [(.con (.int .u8 i3)), (.con (.int .u8 i4)), (.con (.int .u8 i5)), (.con (.int .u8 i6)), (.con (.int .u8 i7)), (.con (.int .u8 i8)), (.con (.int .u8 i9)), (.con (.int .u8 i10)), (.con (.int .u8 i11)), (.con (.int .u8 i12)), (.con (.int .u8 i13)), (.con (.int .u8 i14)), i15]
  (Q (.tup [(.own 1 59 13 [[(.con (.int .u8 i3)), (.con (.int .u8 i4)), (.con (.int .u8 i5)), (.con (.int .u8 i6)), (.con (.int .u8 i7)), (.con (.int .u8 i8)), (.con (.int .u8 i9)), (.con (.int .u8 i10)), (.con (.int .u8 i11)), (.con (.int .u8 i12)), (.con (.int .u8 i13)), (.con (.int .u8 i14)), i15]]), (.con (.int .i64 0))]) [[(.row (splice (0 + Int.toNat i1 * 1) [(.con (.int .u8 1))] (splice 0 [(.con (.int .u8 0)), (.con (.int .u8 0)), (.con (.int .u8 0)), (.con (.int .u8 0)), (.con (.int .u8 0)), (.con (.int .u8 0)), (.con (.int .u8 0)), (.con (.int .u8 0)), (.con (.int .u8 0)), (.con (.int .u8 0)), (.con (.int .u8 0)), (.con (.int .u8 0)), (.con (.int .i64 1))] [(.con (.int .u8 0)), (.con (.int .u8 0)), (.con (.int .u8 0)), (.con (.int .u8 0)), (.con (.int .u8 0)), (.con (.int .u8 0)), (.con (.int .u8 0)), (.con (.int .u8 0)), (.con (.int .u8 0)), (.con (.int .u8 0)), (.con (.int .u8 0)), (.con (.int .u8 0)), (.con (.int .i64 0))])))], [.tip]]))))))
theorem a13 (i1 : Int) (Q : PV → Heap → Prop) (h : p13 i1 Q) : ACalls Try.prog 13 [i1] [] Q := by
  have hb : Option.some (bodyOf Try.f13) = Try.f13.body := by kernel_rfl
  exact acalls_eq (S := S) (L := loops32) mixed tok Try.func13 hb.symm (by kernel_rfl) h
def loops19 (id : Nat) : Option (List Nat × List (Nat × Sh)) := match Nat.beq id 4 with | true => some ([0, 8, 9], [(10, .int .i64)]) | false => none
def p19 (l1 : List (List PV)) (Q : PV → Heap → Prop) : Prop :=
br ((decide (((List.length l1 : Int) : Int) > 64)))
  (Q (.con (.bool false)) [])
  (∃ I2 : Nat → ((Int) × Unit) → Prop, (∃ n, I2 n (0, ())) ∧ ∀ (n3 : Nat) (v4 : (Int) × Unit), I2 n3 v4 →
  (br ((decide ((v4.1 : Int) < (List.length l1 : Int))))
  (∃ (i5 i6 i7 i8 i9 i10 i11 i12 i13 i14 i15 i16 i17 : Int), IdxN l1 v4.1 [(.con (.int .u8 i5)), (.con (.int .u8 i6)), (.con (.int .u8 i7)), (.con (.int .u8 i8)), (.con (.int .u8 i9)), (.con (.int .u8 i10)), (.con (.int .u8 i11)), (.con (.int .u8 i12)), (.con (.int .u8 i13)), (.con (.int .u8 i14)), (.con (.int .u8 i15)), (.con (.int .u8 i16)), i17]
  (RowW 0 13 (List.length ([(.con (.int .u8 0)), (.con (.int .u8 0)), (.con (.int .u8 0)), (.con (.int .u8 0)), (.con (.int .u8 0)), (.con (.int .u8 0)), (.con (.int .u8 0)), (.con (.int .u8 0)), (.con (.int .u8 0)), (.con (.int .u8 0)), (.con (.int .u8 0)), (.con (.int .u8 0)), (.con (.int .i64 0))] : List PV))
  (∃ (i18 i19 i20 i21 i22 i23 i24 i25 i26 i27 i28 i29 i30 : Int), RowN (splice 0 [(.con (.int .u8 i5)), (.con (.int .u8 i6)), (.con (.int .u8 i7)), (.con (.int .u8 i8)), (.con (.int .u8 i9)), (.con (.int .u8 i10)), (.con (.int .u8 i11)), (.con (.int .u8 i12)), (.con (.int .u8 i13)), (.con (.int .u8 i14)), (.con (.int .u8 i15)), (.con (.int .u8 i16)), i17] [(.con (.int .u8 0)), (.con (.int .u8 0)), (.con (.int .u8 0)), (.con (.int .u8 0)), (.con (.int .u8 0)), (.con (.int .u8 0)), (.con (.int .u8 0)), (.con (.int .u8 0)), (.con (.int .u8 0)), (.con (.int .u8 0)), (.con (.int .u8 0)), (.con (.int .u8 0)), (.con (.int .i64 0))]) 0 [(.con (.int .u8 i18)), (.con (.int .u8 i19)), (.con (.int .u8 i20)), (.con (.int .u8 i21)), (.con (.int .u8 i22)), (.con (.int .u8 i23)), (.con (.int .u8 i24)), (.con (.int .u8 i25)), (.con (.int .u8 i26)), (.con (.int .u8 i27)), (.con (.int .u8 i28)), (.con (.int .u8 i29)), i30]
  (∃ b31 : Bool, CallN Try.prog 38 [(.agg [(.con (.int .u8 i18)), (.con (.int .u8 i19)), (.con (.int .u8 i20)), (.con (.int .u8 i21)), (.con (.int .u8 i22)), (.con (.int .u8 i23)), (.con (.int .u8 i24)), (.con (.int .u8 i25)), (.con (.int .u8 i26)), (.con (.int .u8 i27)), (.con (.int .u8 i28)), (.con (.int .u8 i29)), i30])] [[(.row (splice 0 [(.con (.int .u8 i5)), (.con (.int .u8 i6)), (.con (.int .u8 i7)), (.con (.int .u8 i8)), (.con (.int .u8 i9)), (.con (.int .u8 i10)), (.con (.int .u8 i11)), (.con (.int .u8 i12)), (.con (.int .u8 i13)), (.con (.int .u8 i14)), (.con (.int .u8 i15)), (.con (.int .u8 i16)), i17] [(.con (.int .u8 0)), (.con (.int .u8 0)), (.con (.int .u8 0)), (.con (.int .u8 0)), (.con (.int .u8 0)), (.con (.int .u8 0)), (.con (.int .u8 0)), (.con (.int .u8 0)), (.con (.int .u8 0)), (.con (.int .u8 0)), (.con (.int .u8 0)), (.con (.int .u8 0)), (.con (.int .i64 0))]))]] b31
  (br ((!b31))
  (Q (.con (.bool false)) [[(.row (splice 0 [(.con (.int .u8 i5)), (.con (.int .u8 i6)), (.con (.int .u8 i7)), (.con (.int .u8 i8)), (.con (.int .u8 i9)), (.con (.int .u8 i10)), (.con (.int .u8 i11)), (.con (.int .u8 i12)), (.con (.int .u8 i13)), (.con (.int .u8 i14)), (.con (.int .u8 i15)), (.con (.int .u8 i16)), i17] [(.con (.int .u8 0)), (.con (.int .u8 0)), (.con (.int .u8 0)), (.con (.int .u8 0)), (.con (.int .u8 0)), (.con (.int .u8 0)), (.con (.int .u8 0)), (.con (.int .u8 0)), (.con (.int .u8 0)), (.con (.int .u8 0)), (.con (.int .u8 0)), (.con (.int .u8 0)), (.con (.int .i64 0))]))]])
  (br ((decide ((v4.1 : Int) > 0)))
  (∃ (i32 i33 i34 i35 i36 i37 i38 i39 i40 i41 i42 i43 i44 : Int), IdxN l1 (IntKind.wrap .i64 (v4.1 - 1)) [(.con (.int .u8 i32)), (.con (.int .u8 i33)), (.con (.int .u8 i34)), (.con (.int .u8 i35)), (.con (.int .u8 i36)), (.con (.int .u8 i37)), (.con (.int .u8 i38)), (.con (.int .u8 i39)), (.con (.int .u8 i40)), (.con (.int .u8 i41)), (.con (.int .u8 i42)), (.con (.int .u8 i43)), i44]
  (∃ (i45 i46 i47 i48 i49 i50 i51 i52 i53 i54 i55 i56 i57 : Int), RowN (splice 0 [(.con (.int .u8 i5)), (.con (.int .u8 i6)), (.con (.int .u8 i7)), (.con (.int .u8 i8)), (.con (.int .u8 i9)), (.con (.int .u8 i10)), (.con (.int .u8 i11)), (.con (.int .u8 i12)), (.con (.int .u8 i13)), (.con (.int .u8 i14)), (.con (.int .u8 i15)), (.con (.int .u8 i16)), i17] [(.con (.int .u8 0)), (.con (.int .u8 0)), (.con (.int .u8 0)), (.con (.int .u8 0)), (.con (.int .u8 0)), (.con (.int .u8 0)), (.con (.int .u8 0)), (.con (.int .u8 0)), (.con (.int .u8 0)), (.con (.int .u8 0)), (.con (.int .u8 0)), (.con (.int .u8 0)), (.con (.int .i64 0))]) 0 [(.con (.int .u8 i45)), (.con (.int .u8 i46)), (.con (.int .u8 i47)), (.con (.int .u8 i48)), (.con (.int .u8 i49)), (.con (.int .u8 i50)), (.con (.int .u8 i51)), (.con (.int .u8 i52)), (.con (.int .u8 i53)), (.con (.int .u8 i54)), (.con (.int .u8 i55)), (.con (.int .u8 i56)), i57]
  (∃ i58 : Int, CallN Try.prog 39 [(.agg [(.con (.int .u8 i32)), (.con (.int .u8 i33)), (.con (.int .u8 i34)), (.con (.int .u8 i35)), (.con (.int .u8 i36)), (.con (.int .u8 i37)), (.con (.int .u8 i38)), (.con (.int .u8 i39)), (.con (.int .u8 i40)), (.con (.int .u8 i41)), (.con (.int .u8 i42)), (.con (.int .u8 i43)), i44]), (.agg [(.con (.int .u8 i45)), (.con (.int .u8 i46)), (.con (.int .u8 i47)), (.con (.int .u8 i48)), (.con (.int .u8 i49)), (.con (.int .u8 i50)), (.con (.int .u8 i51)), (.con (.int .u8 i52)), (.con (.int .u8 i53)), (.con (.int .u8 i54)), (.con (.int .u8 i55)), (.con (.int .u8 i56)), i57])] [[(.row (splice 0 [(.con (.int .u8 i5)), (.con (.int .u8 i6)), (.con (.int .u8 i7)), (.con (.int .u8 i8)), (.con (.int .u8 i9)), (.con (.int .u8 i10)), (.con (.int .u8 i11)), (.con (.int .u8 i12)), (.con (.int .u8 i13)), (.con (.int .u8 i14)), (.con (.int .u8 i15)), (.con (.int .u8 i16)), i17] [(.con (.int .u8 0)), (.con (.int .u8 0)), (.con (.int .u8 0)), (.con (.int .u8 0)), (.con (.int .u8 0)), (.con (.int .u8 0)), (.con (.int .u8 0)), (.con (.int .u8 0)), (.con (.int .u8 0)), (.con (.int .u8 0)), (.con (.int .u8 0)), (.con (.int .u8 0)), (.con (.int .i64 0))]))]] i58
  (br ((decide ((i58 : Int) ≥ 0)))
  (Q (.con (.bool false)) [[(.row (splice 0 [(.con (.int .u8 i5)), (.con (.int .u8 i6)), (.con (.int .u8 i7)), (.con (.int .u8 i8)), (.con (.int .u8 i9)), (.con (.int .u8 i10)), (.con (.int .u8 i11)), (.con (.int .u8 i12)), (.con (.int .u8 i13)), (.con (.int .u8 i14)), (.con (.int .u8 i15)), (.con (.int .u8 i16)), i17] [(.con (.int .u8 0)), (.con (.int .u8 0)), (.con (.int .u8 0)), (.con (.int .u8 0)), (.con (.int .u8 0)), (.con (.int .u8 0)), (.con (.int .u8 0)), (.con (.int .u8 0)), (.con (.int .u8 0)), (.con (.int .u8 0)), (.con (.int .u8 0)), (.con (.int .u8 0)), (.con (.int .i64 0))]))]])
  ((@Eq PV l1 l1 ∧ @Eq PV l1 l1 ∧ @Eq PV (.con (.int .i64 (List.length l1 : Int))) (.con (.int .i64 (List.length l1 : Int))) ∧ True) ∧ @Eq Heap [] [] ∧ ∃ k59, k59 < n3 ∧ I2 k59 ((IntKind.wrap .i64 (v4.1 + 1)), ()))))))
  ((@Eq PV l1 l1 ∧ @Eq PV l1 l1 ∧ @Eq PV (.con (.int .i64 (List.length l1 : Int))) (.con (.int .i64 (List.length l1 : Int))) ∧ True) ∧ @Eq Heap [] [] ∧ ∃ k60, k60 < n3 ∧ I2 k60 ((IntKind.wrap .i64 (v4.1 + 1)), ()))))))))
  (Q (.con (.bool true)) [])))
theorem a19 (l1 : List (List PV)) (Q : PV → Heap → Prop) (h : p19 l1 Q) : ACalls Try.prog 19 [l1] [] Q := by
  have hb : Option.some (bodyOf Try.f19) = Try.f19.body := by kernel_rfl
  exact acalls_eq (S := S) (L := loops19) mixed tok Try.func19 hb.symm (by kernel_rfl) h
def p24 (l1 l2 : List (List PV)) (Q : PV → Heap → Prop) : Prop :=
∃ l3 : List (List PV), CallN Try.prog 42 [l1, l2, (.fn 39 []), (.fn 43 [])] [] l3
  (∃ (l4 : LL) (i5 : Int), CallN Try.prog 34 [l3] [] (.tup [l4, i5])
  (Q (.tup [l4, i5]) []))
theorem a24 (l1 l2 : List (List PV)) (Q : PV → Heap → Prop) (h : p24 l1 l2 Q) : ACalls Try.prog 24 [l1, l2] [] Q := by
  have hb : Option.some (bodyOf Try.f24) = Try.f24.body := by kernel_rfl
  exact acalls_eq (S := S) (L := loops32) mixed tok Try.func24 hb.symm (by kernel_rfl) h
def loops26 (id : Nat) : Option (List Nat × List (Nat × Sh)) := match Nat.beq id 4 with | true => some ([1, 10, 11], [(6, .list), (12, .int .i64)]) | false => none
def p26 (l1 l2 : List (List PV)) (Q : PV → Heap → Prop) : Prop :=
∃ I3 : Nat → ((List (List PV)) × (Int) × Unit) → Prop, (∃ n, I3 n ([], 0, ())) ∧ ∀ (n4 : Nat) (v5 : (List (List PV)) × (Int) × Unit), I3 n4 v5 →
  (br ((decide ((v5.2.1 : Int) < (List.length l1 : Int))))
  (∃ (i6 i7 i8 i9 i10 i11 i12 i13 i14 i15 i16 i17 i18 : Int), IdxN l1 v5.2.1 [(.con (.int .u8 i6)), (.con (.int .u8 i7)), (.con (.int .u8 i8)), (.con (.int .u8 i9)), (.con (.int .u8 i10)), (.con (.int .u8 i11)), (.con (.int .u8 i12)), (.con (.int .u8 i13)), (.con (.int .u8 i14)), (.con (.int .u8 i15)), (.con (.int .u8 i16)), (.con (.int .u8 i17)), i18]
  (RowW 0 13 (List.length ([(.con (.int .u8 0)), (.con (.int .u8 0)), (.con (.int .u8 0)), (.con (.int .u8 0)), (.con (.int .u8 0)), (.con (.int .u8 0)), (.con (.int .u8 0)), (.con (.int .u8 0)), (.con (.int .u8 0)), (.con (.int .u8 0)), (.con (.int .u8 0)), (.con (.int .u8 0)), (.con (.int .i64 0))] : List PV))
  (∃ (i19 i20 i21 i22 i23 i24 i25 i26 i27 i28 i29 i30 i31 : Int), RowN (splice 0 [(.con (.int .u8 i6)), (.con (.int .u8 i7)), (.con (.int .u8 i8)), (.con (.int .u8 i9)), (.con (.int .u8 i10)), (.con (.int .u8 i11)), (.con (.int .u8 i12)), (.con (.int .u8 i13)), (.con (.int .u8 i14)), (.con (.int .u8 i15)), (.con (.int .u8 i16)), (.con (.int .u8 i17)), i18] [(.con (.int .u8 0)), (.con (.int .u8 0)), (.con (.int .u8 0)), (.con (.int .u8 0)), (.con (.int .u8 0)), (.con (.int .u8 0)), (.con (.int .u8 0)), (.con (.int .u8 0)), (.con (.int .u8 0)), (.con (.int .u8 0)), (.con (.int .u8 0)), (.con (.int .u8 0)), (.con (.int .i64 0))]) 0 [(.con (.int .u8 i19)), (.con (.int .u8 i20)), (.con (.int .u8 i21)), (.con (.int .u8 i22)), (.con (.int .u8 i23)), (.con (.int .u8 i24)), (.con (.int .u8 i25)), (.con (.int .u8 i26)), (.con (.int .u8 i27)), (.con (.int .u8 i28)), (.con (.int .u8 i29)), (.con (.int .u8 i30)), i31]
  (∃ l32 : List (List PV), CallN Try.prog 45 [(.agg [(.con (.int .u8 i19)), (.con (.int .u8 i20)), (.con (.int .u8 i21)), (.con (.int .u8 i22)), (.con (.int .u8 i23)), (.con (.int .u8 i24)), (.con (.int .u8 i25)), (.con (.int .u8 i26)), (.con (.int .u8 i27)), (.con (.int .u8 i28)), (.con (.int .u8 i29)), (.con (.int .u8 i30)), i31]), l2] [[(.row (splice 0 [(.con (.int .u8 i6)), (.con (.int .u8 i7)), (.con (.int .u8 i8)), (.con (.int .u8 i9)), (.con (.int .u8 i10)), (.con (.int .u8 i11)), (.con (.int .u8 i12)), (.con (.int .u8 i13)), (.con (.int .u8 i14)), (.con (.int .u8 i15)), (.con (.int .u8 i16)), (.con (.int .u8 i17)), i18] [(.con (.int .u8 0)), (.con (.int .u8 0)), (.con (.int .u8 0)), (.con (.int .u8 0)), (.con (.int .u8 0)), (.con (.int .u8 0)), (.con (.int .u8 0)), (.con (.int .u8 0)), (.con (.int .u8 0)), (.con (.int .u8 0)), (.con (.int .u8 0)), (.con (.int .u8 0)), (.con (.int .i64 0))]))]] l32
  (∃ (l33 : LL) (i34 : Int), CallN Try.prog 24 [v5.1, l32] [[(.row (splice 0 [(.con (.int .u8 i6)), (.con (.int .u8 i7)), (.con (.int .u8 i8)), (.con (.int .u8 i9)), (.con (.int .u8 i10)), (.con (.int .u8 i11)), (.con (.int .u8 i12)), (.con (.int .u8 i13)), (.con (.int .u8 i14)), (.con (.int .u8 i15)), (.con (.int .u8 i16)), (.con (.int .u8 i17)), i18] [(.con (.int .u8 0)), (.con (.int .u8 0)), (.con (.int .u8 0)), (.con (.int .u8 0)), (.con (.int .u8 0)), (.con (.int .u8 0)), (.con (.int .u8 0)), (.con (.int .u8 0)), (.con (.int .u8 0)), (.con (.int .u8 0)), (.con (.int .u8 0)), (.con (.int .u8 0)), (.con (.int .i64 0))]))]] (.tup [l33, i34])
  (br (((i34 : Int) != 0))
  (Q (.tup [(.con (.slice none 0 0)), i34]) [[(.row (splice 0 [(.con (.int .u8 i6)), (.con (.int .u8 i7)), (.con (.int .u8 i8)), (.con (.int .u8 i9)), (.con (.int .u8 i10)), (.con (.int .u8 i11)), (.con (.int .u8 i12)), (.con (.int .u8 i13)), (.con (.int .u8 i14)), (.con (.int .u8 i15)), (.con (.int .u8 i16)), (.con (.int .u8 i17)), i18] [(.con (.int .u8 0)), (.con (.int .u8 0)), (.con (.int .u8 0)), (.con (.int .u8 0)), (.con (.int .u8 0)), (.con (.int .u8 0)), (.con (.int .u8 0)), (.con (.int .u8 0)), (.con (.int .u8 0)), (.con (.int .u8 0)), (.con (.int .u8 0)), (.con (.int .u8 0)), (.con (.int .i64 0))]))]])
  ((@Eq PV l2 l2 ∧ @Eq PV l1 l1 ∧ @Eq PV (.con (.int .i64 (List.length l1 : Int))) (.con (.int .i64 (List.length l1 : Int))) ∧ True) ∧ @Eq Heap [] [] ∧ ∃ k35, k35 < n4 ∧ I3 k35 (l33, (IntKind.wrap .i64 (v5.2.1 + 1)), ()))))))))
  (Q (.tup [v5.1, (.con (.int .i64 0))]) []))
theorem a26 (l1 l2 : List (List PV)) (Q : PV → Heap → Prop) (h : p26 l1 l2 Q) : ACalls Try.prog 26 [l1, l2] [] Q := by
  have hb : Option.some (bodyOf Try.f26) = Try.f26.body := by kernel_rfl
  exact acalls_eq (S := S) (L := loops26) mixed tok Try.func26 hb.symm (by kernel_rfl) h
def p28 (l1 l2 : List (List PV)) (Q : PV → Heap → Prop) : Prop :=
∃ l3 : List (List PV), CallN Try.prog 42 [l1, l2, (.fn 39 []), (.fn 47 [])] [] l3
  (∃ (l4 : LL) (i5 : Int), CallN Try.prog 34 [l3] [] (.tup [l4, i5])
  (Q (.tup [l4, i5]) []))
theorem a28 (l1 l2 : List (List PV)) (Q : PV → Heap → Prop) (h : p28 l1 l2 Q) : ACalls Try.prog 28 [l1, l2] [] Q := by
  have hb : Option.some (bodyOf Try.f28) = Try.f28.body := by kernel_rfl
  exact acalls_eq (S := S) (L := loops32) mixed tok Try.func28 hb.symm (by kernel_rfl) h
def loops30 (id : Nat) : Option (List Nat × List (Nat × Sh)) := match Nat.beq id 5 with | true => some ([1, 14, 15], [(6, .list), (16, .int .i64)]) | false => none
def p30 (l1 l2 : List (List PV)) (Q : PV → Heap → Prop) : Prop :=
∃ b3 : Bool, CallN Try.prog 19 [l1] [] b3
  (br ((!b3))
  (Q (.tup [(.con (.slice none 0 0)), (.con (.int .i64 17))]) [])
  (∃ I4 : Nat → ((List (List PV)) × (Int) × Unit) → Prop, (∃ n, I4 n ([], 0, ())) ∧ ∀ (n5 : Nat) (v6 : (List (List PV)) × (Int) × Unit), I4 n5 v6 →
  (br ((decide ((v6.2.1 : Int) < (List.length l1 : Int))))
  (∃ (i7 i8 i9 i10 i11 i12 i13 i14 i15 i16 i17 i18 i19 : Int), IdxN l1 v6.2.1 [(.con (.int .u8 i7)), (.con (.int .u8 i8)), (.con (.int .u8 i9)), (.con (.int .u8 i10)), (.con (.int .u8 i11)), (.con (.int .u8 i12)), (.con (.int .u8 i13)), (.con (.int .u8 i14)), (.con (.int .u8 i15)), (.con (.int .u8 i16)), (.con (.int .u8 i17)), (.con (.int .u8 i18)), i19]
  (RowW 0 13 (List.length ([(.con (.int .u8 0)), (.con (.int .u8 0)), (.con (.int .u8 0)), (.con (.int .u8 0)), (.con (.int .u8 0)), (.con (.int .u8 0)), (.con (.int .u8 0)), (.con (.int .u8 0)), (.con (.int .u8 0)), (.con (.int .u8 0)), (.con (.int .u8 0)), (.con (.int .u8 0)), (.con (.int .i64 0))] : List PV))
  (∃ (i20 i21 i22 i23 i24 i25 i26 i27 i28 i29 i30 i31 i32 : Int), RowN (splice 0 [(.con (.int .u8 i7)), (.con (.int .u8 i8)), (.con (.int .u8 i9)), (.con (.int .u8 i10)), (.con (.int .u8 i11)), (.con (.int .u8 i12)), (.con (.int .u8 i13)), (.con (.int .u8 i14)), (.con (.int .u8 i15)), (.con (.int .u8 i16)), (.con (.int .u8 i17)), (.con (.int .u8 i18)), i19] [(.con (.int .u8 0)), (.con (.int .u8 0)), (.con (.int .u8 0)), (.con (.int .u8 0)), (.con (.int .u8 0)), (.con (.int .u8 0)), (.con (.int .u8 0)), (.con (.int .u8 0)), (.con (.int .u8 0)), (.con (.int .u8 0)), (.con (.int .u8 0)), (.con (.int .u8 0)), (.con (.int .i64 0))]) 0 [(.con (.int .u8 i20)), (.con (.int .u8 i21)), (.con (.int .u8 i22)), (.con (.int .u8 i23)), (.con (.int .u8 i24)), (.con (.int .u8 i25)), (.con (.int .u8 i26)), (.con (.int .u8 i27)), (.con (.int .u8 i28)), (.con (.int .u8 i29)), (.con (.int .u8 i30)), (.con (.int .u8 i31)), i32]
  (∃ (l33 : LL) (i34 : Int), CallN Try.prog 48 [(.agg [(.con (.int .u8 i20)), (.con (.int .u8 i21)), (.con (.int .u8 i22)), (.con (.int .u8 i23)), (.con (.int .u8 i24)), (.con (.int .u8 i25)), (.con (.int .u8 i26)), (.con (.int .u8 i27)), (.con (.int .u8 i28)), (.con (.int .u8 i29)), (.con (.int .u8 i30)), (.con (.int .u8 i31)), i32]), l2] [[(.row (splice 0 [(.con (.int .u8 i7)), (.con (.int .u8 i8)), (.con (.int .u8 i9)), (.con (.int .u8 i10)), (.con (.int .u8 i11)), (.con (.int .u8 i12)), (.con (.int .u8 i13)), (.con (.int .u8 i14)), (.con (.int .u8 i15)), (.con (.int .u8 i16)), (.con (.int .u8 i17)), (.con (.int .u8 i18)), i19] [(.con (.int .u8 0)), (.con (.int .u8 0)), (.con (.int .u8 0)), (.con (.int .u8 0)), (.con (.int .u8 0)), (.con (.int .u8 0)), (.con (.int .u8 0)), (.con (.int .u8 0)), (.con (.int .u8 0)), (.con (.int .u8 0)), (.con (.int .u8 0)), (.con (.int .u8 0)), (.con (.int .i64 0))]))]] (.tup [l33, i34])
  (br (((i34 : Int) == 0))
  (∃ (l35 : LL) (i36 : Int), CallN Try.prog 24 [v6.1, l33] [[(.row (splice 0 [(.con (.int .u8 i7)), (.con (.int .u8 i8)), (.con (.int .u8 i9)), (.con (.int .u8 i10)), (.con (.int .u8 i11)), (.con (.int .u8 i12)), (.con (.int .u8 i13)), (.con (.int .u8 i14)), (.con (.int .u8 i15)), (.con (.int .u8 i16)), (.con (.int .u8 i17)), (.con (.int .u8 i18)), i19] [(.con (.int .u8 0)), (.con (.int .u8 0)), (.con (.int .u8 0)), (.con (.int .u8 0)), (.con (.int .u8 0)), (.con (.int .u8 0)), (.con (.int .u8 0)), (.con (.int .u8 0)), (.con (.int .u8 0)), (.con (.int .u8 0)), (.con (.int .u8 0)), (.con (.int .u8 0)), (.con (.int .i64 0))]))]] (.tup [l35, i36])
  (br (((i36 : Int) != 0))
  (Q (.tup [(.con (.slice none 0 0)), i36]) [[(.row (splice 0 [(.con (.int .u8 i7)), (.con (.int .u8 i8)), (.con (.int .u8 i9)), (.con (.int .u8 i10)), (.con (.int .u8 i11)), (.con (.int .u8 i12)), (.con (.int .u8 i13)), (.con (.int .u8 i14)), (.con (.int .u8 i15)), (.con (.int .u8 i16)), (.con (.int .u8 i17)), (.con (.int .u8 i18)), i19] [(.con (.int .u8 0)), (.con (.int .u8 0)), (.con (.int .u8 0)), (.con (.int .u8 0)), (.con (.int .u8 0)), (.con (.int .u8 0)), (.con (.int .u8 0)), (.con (.int .u8 0)), (.con (.int .u8 0)), (.con (.int .u8 0)), (.con (.int .u8 0)), (.con (.int .u8 0)), (.con (.int .i64 0))]))]])
  ((@Eq PV l2 l2 ∧ @Eq PV l1 l1 ∧ @Eq PV (.con (.int .i64 (List.length l1 : Int))) (.con (.int .i64 (List.length l1 : Int))) ∧ True) ∧ @Eq Heap [] [] ∧ ∃ k37, k37 < n5 ∧ I4 k37 (l35, (IntKind.wrap .i64 (v6.2.1 + 1)), ()))))
  (br (((i34 : Int) != 0))
  (Q (.tup [(.con (.slice none 0 0)), i34]) [[(.row (splice 0 [(.con (.int .u8 i7)), (.con (.int .u8 i8)), (.con (.int .u8 i9)), (.con (.int .u8 i10)), (.con (.int .u8 i11)), (.con (.int .u8 i12)), (.con (.int .u8 i13)), (.con (.int .u8 i14)), (.con (.int .u8 i15)), (.con (.int .u8 i16)), (.con (.int .u8 i17)), (.con (.int .u8 i18)), i19] [(.con (.int .u8 0)), (.con (.int .u8 0)), (.con (.int .u8 0)), (.con (.int .u8 0)), (.con (.int .u8 0)), (.con (.int .u8 0)), (.con (.int .u8 0)), (.con (.int .u8 0)), (.con (.int .u8 0)), (.con (.int .u8 0)), (.con (.int .u8 0)), (.con (.int .u8 0)), (.con (.int .i64 0))]))]])
  ((@Eq PV l2 l2 ∧ @Eq PV l1 l1 ∧ @Eq PV (.con (.int .i64 (List.length l1 : Int))) (.con (.int .i64 (List.length l1 : Int))) ∧ True) ∧ @Eq Heap [] [] ∧ ∃ k38, k38 < n5 ∧ I4 k38 (v6.1, (IntKind.wrap .i64 (v6.2.1 + 1)), ()))))))))
  (Q (.tup [v6.1, (.con (.int .i64 0))]) []))))
theorem a30 (l1 l2 : List (List PV)) (Q : PV → Heap → Prop) (h : p30 l1 l2 Q) : ACalls Try.prog 30 [l1, l2] [] Q := by
  have hb : Option.some (bodyOf Try.f30) = Try.f30.body := by kernel_rfl
  exact acalls_eq (S := S) (L := loops30) mixed tok Try.func30 hb.symm (by kernel_rfl) h
def loops15 (id : Nat) : Option (List Nat × List (Nat × Sh)) := match Nat.beq id 5 with | true => some ([1, 12, 13], [(6, .int .i64), (14, .int .i64)]) | false => none
def p15 (l1 l2 : List (List PV)) (Q : PV → Heap → Prop) : Prop :=
∃ b3 : Bool, CallN Try.prog 19 [l1] [] b3
  (br ((!b3))
  (Q (.tup [(.con (.int .i64 0)), (.con (.int .i64 17))]) [])
  (∃ I4 : Nat → ((Int) × (Int) × Unit) → Prop, (∃ n, I4 n (0, 0, ())) ∧ ∀ (n5 : Nat) (v6 : (Int) × (Int) × Unit), I4 n5 v6 →
  (br ((decide ((v6.2.1 : Int) < (List.length l1 : Int))))
  (∃ (i7 i8 i9 i10 i11 i12 i13 i14 i15 i16 i17 i18 i19 : Int), IdxN l1 v6.2.1 [(.con (.int .u8 i7)), (.con (.int .u8 i8)), (.con (.int .u8 i9)), (.con (.int .u8 i10)), (.con (.int .u8 i11)), (.con (.int .u8 i12)), (.con (.int .u8 i13)), (.con (.int .u8 i14)), (.con (.int .u8 i15)), (.con (.int .u8 i16)), (.con (.int .u8 i17)), (.con (.int .u8 i18)), i19]
  (RowW 0 13 (List.length ([(.con (.int .u8 0)), (.con (.int .u8 0)), (.con (.int .u8 0)), (.con (.int .u8 0)), (.con (.int .u8 0)), (.con (.int .u8 0)), (.con (.int .u8 0)), (.con (.int .u8 0)), (.con (.int .u8 0)), (.con (.int .u8 0)), (.con (.int .u8 0)), (.con (.int .u8 0)), (.con (.int .i64 0))] : List PV))
  (∃ (i20 i21 i22 i23 i24 i25 i26 i27 i28 i29 i30 i31 i32 : Int), RowN (splice 0 [(.con (.int .u8 i7)), (.con (.int .u8 i8)), (.con (.int .u8 i9)), (.con (.int .u8 i10)), (.con (.int .u8 i11)), (.con (.int .u8 i12)), (.con (.int .u8 i13)), (.con (.int .u8 i14)), (.con (.int .u8 i15)), (.con (.int .u8 i16)), (.con (.int .u8 i17)), (.con (.int .u8 i18)), i19] [(.con (.int .u8 0)), (.con (.int .u8 0)), (.con (.int .u8 0)), (.con (.int .u8 0)), (.con (.int .u8 0)), (.con (.int .u8 0)), (.con (.int .u8 0)), (.con (.int .u8 0)), (.con (.int .u8 0)), (.con (.int .u8 0)), (.con (.int .u8 0)), (.con (.int .u8 0)), (.con (.int .i64 0))]) 0 [(.con (.int .u8 i20)), (.con (.int .u8 i21)), (.con (.int .u8 i22)), (.con (.int .u8 i23)), (.con (.int .u8 i24)), (.con (.int .u8 i25)), (.con (.int .u8 i26)), (.con (.int .u8 i27)), (.con (.int .u8 i28)), (.con (.int .u8 i29)), (.con (.int .u8 i30)), (.con (.int .u8 i31)), i32]
  (∃ i33 : Int, CallN Try.prog 36 [(.agg [(.con (.int .u8 i20)), (.con (.int .u8 i21)), (.con (.int .u8 i22)), (.con (.int .u8 i23)), (.con (.int .u8 i24)), (.con (.int .u8 i25)), (.con (.int .u8 i26)), (.con (.int .u8 i27)), (.con (.int .u8 i28)), (.con (.int .u8 i29)), (.con (.int .u8 i30)), (.con (.int .u8 i31)), i32]), l2] [[(.row (splice 0 [(.con (.int .u8 i7)), (.con (.int .u8 i8)), (.con (.int .u8 i9)), (.con (.int .u8 i10)), (.con (.int .u8 i11)), (.con (.int .u8 i12)), (.con (.int .u8 i13)), (.con (.int .u8 i14)), (.con (.int .u8 i15)), (.con (.int .u8 i16)), (.con (.int .u8 i17)), (.con (.int .u8 i18)), i19] [(.con (.int .u8 0)), (.con (.int .u8 0)), (.con (.int .u8 0)), (.con (.int .u8 0)), (.con (.int .u8 0)), (.con (.int .u8 0)), (.con (.int .u8 0)), (.con (.int .u8 0)), (.con (.int .u8 0)), (.con (.int .u8 0)), (.con (.int .u8 0)), (.con (.int .u8 0)), (.con (.int .i64 0))]))]] i33
  ((@Eq PV l2 l2 ∧ @Eq PV l1 l1 ∧ @Eq PV (.con (.int .i64 (List.length l1 : Int))) (.con (.int .i64 (List.length l1 : Int))) ∧ True) ∧ @Eq Heap [] [] ∧ ∃ k34, k34 < n5 ∧ I4 k34 ((IntKind.wrap .i64 (v6.1 + i33)), (IntKind.wrap .i64 (v6.2.1 + 1)), ()))))))
  (br ((decide ((v6.1 : Int) > 1099511627776)))
  (Q (.tup [(.con (.int .i64 0)), (.con (.int .i64 17))]) [])
  (Q (.tup [v6.1, (.con (.int .i64 0))]) [])))))
theorem a15 (l1 l2 : List (List PV)) (Q : PV → Heap → Prop) (h : p15 l1 l2 Q) : ACalls Try.prog 15 [l1, l2] [] Q := by
  have hb : Option.some (bodyOf Try.f15) = Try.f15.body := by kernel_rfl
  exact acalls_eq (S := S) (L := loops15) mixed tok Try.func15 hb.symm (by kernel_rfl) h
def loops17 (id : Nat) : Option (List Nat × List (Nat × Sh)) := match Nat.beq id 3 with | true => some ([1, 7, 8, 16, 17], [(4, .int .i64), (5, .own 0 59 13), (18, .int .i64)]) | false => none
def p17 (l1 : List (List PV)) (i2 : Int) (Q : PV → Heap → Prop) : Prop :=
∃ (l3 : LL) (i4 : Int), CallN Try.prog 13 [i2] [] (.tup [l3, i4])
  (∃ I5 : Nat → ((Int) × (List (List PV)) × (Int) × Unit) → Prop, (∃ n, I5 n (0, [], 0, ())) ∧ ∀ (n6 : Nat) (v7 : (Int) × (List (List PV)) × (Int) × Unit), I5 n6 v7 →
  (br ((decide ((v7.2.2.1 : Int) < (List.length l1 : Int))))
  (∃ (i8 i9 i10 i11 i12 i13 i14 i15 i16 i17 i18 i19 i20 : Int), IdxN l1 v7.2.2.1 [(.con (.int .u8 i8)), (.con (.int .u8 i9)), (.con (.int .u8 i10)), (.con (.int .u8 i11)), (.con (.int .u8 i12)), (.con (.int .u8 i13)), (.con (.int .u8 i14)), (.con (.int .u8 i15)), (.con (.int .u8 i16)), (.con (.int .u8 i17)), (.con (.int .u8 i18)), (.con (.int .u8 i19)), i20]
  (RowW 0 13 (List.length ([(.con (.int .u8 0)), (.con (.int .u8 0)), (.con (.int .u8 0)), (.con (.int .u8 0)), (.con (.int .u8 0)), (.con (.int .u8 0)), (.con (.int .u8 0)), (.con (.int .u8 0)), (.con (.int .u8 0)), (.con (.int .u8 0)), (.con (.int .u8 0)), (.con (.int .u8 0)), (.con (.int .i64 0))] : List PV))
  (br (((i4 : Int) == 0))
  (∃ (i21 i22 i23 i24 i25 i26 i27 i28 i29 i30 i31 i32 : Int), RowN (splice 0 [(.con (.int .u8 i8)), (.con (.int .u8 i9)), (.con (.int .u8 i10)), (.con (.int .u8 i11)), (.con (.int .u8 i12)), (.con (.int .u8 i13)), (.con (.int .u8 i14)), (.con (.int .u8 i15)), (.con (.int .u8 i16)), (.con (.int .u8 i17)), (.con (.int .u8 i18)), (.con (.int .u8 i19)), i20] [(.con (.int .u8 0)), (.con (.int .u8 0)), (.con (.int .u8 0)), (.con (.int .u8 0)), (.con (.int .u8 0)), (.con (.int .u8 0)), (.con (.int .u8 0)), (.con (.int .u8 0)), (.con (.int .u8 0)), (.con (.int .u8 0)), (.con (.int .u8 0)), (.con (.int .u8 0)), (.con (.int .i64 0))]) 0 [(.con (.int .u8 i21)), (.con (.int .u8 i22)), (.con (.int .u8 i23)), (.con (.int .u8 i24)), (.con (.int .u8 i25)), (.con (.int .u8 i26)), (.con (.int .u8 i27)), (.con (.int .u8 i28)), (.con (.int .u8 i29)), (.con (.int .u8 i30)), (.con (.int .u8 i31)), (.con (.int .u8 i32))]
  (∃ (i33 i34 i35 i36 i37 i38 i39 i40 i41 i42 i43 i44 i45 : Int), IdxN l3 0 [(.con (.int .u8 i33)), (.con (.int .u8 i34)), (.con (.int .u8 i35)), (.con (.int .u8 i36)), (.con (.int .u8 i37)), (.con (.int .u8 i38)), (.con (.int .u8 i39)), (.con (.int .u8 i40)), (.con (.int .u8 i41)), (.con (.int .u8 i42)), (.con (.int .u8 i43)), (.con (.int .u8 i44)), i45]
  (EqA Try.prog 57
  (br ((((i21 : Int) == i33) && (((i22 : Int) == i34) && (((i23 : Int) == i35) && (((i24 : Int) == i36) && (((i25 : Int) == i37) && (((i26 : Int) == i38) && (((i27 : Int) == i39) && (((i28 : Int) == i40) && (((i29 : Int) == i41) && (((i30 : Int) == i42) && (((i31 : Int) == i43) && (((i32 : Int) == i44) && true)))))))))))))
  (∃ i46 : Int, RowN (splice 0 [(.con (.int .u8 i8)), (.con (.int .u8 i9)), (.con (.int .u8 i10)), (.con (.int .u8 i11)), (.con (.int .u8 i12)), (.con (.int .u8 i13)), (.con (.int .u8 i14)), (.con (.int .u8 i15)), (.con (.int .u8 i16)), (.con (.int .u8 i17)), (.con (.int .u8 i18)), (.con (.int .u8 i19)), i20] [(.con (.int .u8 0)), (.con (.int .u8 0)), (.con (.int .u8 0)), (.con (.int .u8 0)), (.con (.int .u8 0)), (.con (.int .u8 0)), (.con (.int .u8 0)), (.con (.int .u8 0)), (.con (.int .u8 0)), (.con (.int .u8 0)), (.con (.int .u8 0)), (.con (.int .u8 0)), (.con (.int .i64 0))]) 12 [i46]
  ((@Eq PV i2 i2 ∧ @Eq PV l3 l3 ∧ @Eq PV i4 i4 ∧ @Eq PV l1 l1 ∧ @Eq PV (.con (.int .i64 (List.length l1 : Int))) (.con (.int .i64 (List.length l1 : Int))) ∧ True) ∧ @Eq Heap [] [] ∧ ∃ k47, k47 < n6 ∧ I5 k47 (i46, v7.2.1, (IntKind.wrap .i64 (v7.2.2.1 + 1)), ())))
  (∃ (i48 i49 i50 i51 i52 i53 i54 i55 i56 i57 i58 i59 i60 : Int), RowN (splice 0 [(.con (.int .u8 i8)), (.con (.int .u8 i9)), (.con (.int .u8 i10)), (.con (.int .u8 i11)), (.con (.int .u8 i12)), (.con (.int .u8 i13)), (.con (.int .u8 i14)), (.con (.int .u8 i15)), (.con (.int .u8 i16)), (.con (.int .u8 i17)), (.con (.int .u8 i18)), (.con (.int .u8 i19)), i20] [(.con (.int .u8 0)), (.con (.int .u8 0)), (.con (.int .u8 0)), (.con (.int .u8 0)), (.con (.int .u8 0)), (.con (.int .u8 0)), (.con (.int .u8 0)), (.con (.int .u8 0)), (.con (.int .u8 0)), (.con (.int .u8 0)), (.con (.int .u8 0)), (.con (.int .u8 0)), (.con (.int .i64 0))]) 0 [(.con (.int .u8 i48)), (.con (.int .u8 i49)), (.con (.int .u8 i50)), (.con (.int .u8 i51)), (.con (.int .u8 i52)), (.con (.int .u8 i53)), (.con (.int .u8 i54)), (.con (.int .u8 i55)), (.con (.int .u8 i56)), (.con (.int .u8 i57)), (.con (.int .u8 i58)), (.con (.int .u8 i59)), i60]
  (AppN v7.2.1 [[(.con (.int .u8 i48)), (.con (.int .u8 i49)), (.con (.int .u8 i50)), (.con (.int .u8 i51)), (.con (.int .u8 i52)), (.con (.int .u8 i53)), (.con (.int .u8 i54)), (.con (.int .u8 i55)), (.con (.int .u8 i56)), (.con (.int .u8 i57)), (.con (.int .u8 i58)), (.con (.int .u8 i59)), i60]] 13 24 PV.one
  ((@Eq PV i2 i2 ∧ @Eq PV l3 l3 ∧ @Eq PV i4 i4 ∧ @Eq PV l1 l1 ∧ @Eq PV (.con (.int .i64 (List.length l1 : Int))) (.con (.int .i64 (List.length l1 : Int))) ∧ True) ∧ @Eq Heap [] [] ∧ ∃ k61, k61 < n6 ∧ I5 k61 (v7.1, (v7.2.1 ++ ([[(.con (.int .u8 i48)), (.con (.int .u8 i49)), (.con (.int .u8 i50)), (.con (.int .u8 i51)), (.con (.int .u8 i52)), (.con (.int .u8 i53)), (.con (.int .u8 i54)), (.con (.int .u8 i55)), (.con (.int .u8 i56)), (.con (.int .u8 i57)), (.con (.int .u8 i58)), (.con (.int .u8 i59)), i60]] : List (List PV))), (IntKind.wrap .i64 (v7.2.2.1 + 1)), ()))))))))
  (∃ (i62 i63 i64 i65 i66 i67 i68 i69 i70 i71 i72 i73 i74 : Int), RowN (splice 0 [(.con (.int .u8 i8)), (.con (.int .u8 i9)), (.con (.int .u8 i10)), (.con (.int .u8 i11)), (.con (.int .u8 i12)), (.con (.int .u8 i13)), (.con (.int .u8 i14)), (.con (.int .u8 i15)), (.con (.int .u8 i16)), (.con (.int .u8 i17)), (.con (.int .u8 i18)), (.con (.int .u8 i19)), i20] [(.con (.int .u8 0)), (.con (.int .u8 0)), (.con (.int .u8 0)), (.con (.int .u8 0)), (.con (.int .u8 0)), (.con (.int .u8 0)), (.con (.int .u8 0)), (.con (.int .u8 0)), (.con (.int .u8 0)), (.con (.int .u8 0)), (.con (.int .u8 0)), (.con (.int .u8 0)), (.con (.int .i64 0))]) 0 [(.con (.int .u8 i62)), (.con (.int .u8 i63)), (.con (.int .u8 i64)), (.con (.int .u8 i65)), (.con (.int .u8 i66)), (.con (.int .u8 i67)), (.con (.int .u8 i68)), (.con (.int .u8 i69)), (.con (.int .u8 i70)), (.con (.int .u8 i71)), (.con (.int .u8 i72)), (.con (.int .u8 i73)), i74]
  (AppN v7.2.1 [[(.con (.int .u8 i62)), (.con (.int .u8 i63)), (.con (.int .u8 i64)), (.con (.int .u8 i65)), (.con (.int .u8 i66)), (.con (.int .u8 i67)), (.con (.int .u8 i68)), (.con (.int .u8 i69)), (.con (.int .u8 i70)), (.con (.int .u8 i71)), (.con (.int .u8 i72)), (.con (.int .u8 i73)), i74]] 13 24 PV.one
  ((@Eq PV i2 i2 ∧ @Eq PV l3 l3 ∧ @Eq PV i4 i4 ∧ @Eq PV l1 l1 ∧ @Eq PV (.con (.int .i64 (List.length l1 : Int))) (.con (.int .i64 (List.length l1 : Int))) ∧ True) ∧ @Eq Heap [] [] ∧ ∃ k75, k75 < n6 ∧ I5 k75 (v7.1, (v7.2.1 ++ ([[(.con (.int .u8 i62)), (.con (.int .u8 i63)), (.con (.int .u8 i64)), (.con (.int .u8 i65)), (.con (.int .u8 i66)), (.con (.int .u8 i67)), (.con (.int .u8 i68)), (.con (.int .u8 i69)), (.con (.int .u8 i70)), (.con (.int .u8 i71)), (.con (.int .u8 i72)), (.con (.int .u8 i73)), i74]] : List (List PV))), (IntKind.wrap .i64 (v7.2.2.1 + 1)), ())))))))
  (∃ b76 : Bool, CallN Try.prog 21 [v7.2.1, i2] [[.tip]] b76
  (br (b76)
  (Q (.tup [(.con (.int .i64 0)), (.con (.slice none 0 0)), (.con (.bool false))]) [[.tip]])
  (Q (.tup [v7.1, (.own 0 59 13 v7.2.1), (.con (.bool true))]) [[.tip]])))))
theorem a17 (l1 : List (List PV)) (i2 : Int) (Q : PV → Heap → Prop) (h : p17 l1 i2 Q) : ACalls Try.prog 17 [l1, i2] [] Q := by
  have hb : Option.some (bodyOf Try.f17) = Try.f17.body := by kernel_rfl
  exact acalls_eq (S := S) (L := loops17) mixed tok Try.func17 hb.symm (by kernel_rfl) h
def p21 (l1 : List (List PV)) (i2 : Int) (Q : PV → Heap → Prop) : Prop :=
∃ b3 : Bool, CallN Try.prog 35 [i2] [[i2]] b3
  (br (b3)
  (∃ b4 : Bool, CallN Try.prog 40 [l1, (.fn 41 [(.ept [i2] 0)])] [[]] b4
  (Q b4 [[]]))
  (Q (.con (.bool false)) [[i2]]))
theorem a21 (l1 : List (List PV)) (i2 : Int) (Q : PV → Heap → Prop) (h : p21 l1 i2 Q) : ACalls Try.prog 21 [l1, i2] [] Q := by
  have hb : Option.some (bodyOf Try.f21) = Try.f21.body := by kernel_rfl
  exact acalls_eq (S := S) (L := loops32) mixed tok Try.func21 hb.symm (by kernel_rfl) h
def p41h (i1 i2 i3 i4 i5 i6 i7 i8 i9 i10 i11 i12 i13 i14 : Int) (Q : PV → Heap → Prop) : Prop :=
IdxR 12 i14
  (∃ i15 : Int, RowN [(.con (.int .u8 i1)), (.con (.int .u8 i2)), (.con (.int .u8 i3)), (.con (.int .u8 i4)), (.con (.int .u8 i5)), (.con (.int .u8 i6)), (.con (.int .u8 i7)), (.con (.int .u8 i8)), (.con (.int .u8 i9)), (.con (.int .u8 i10)), (.con (.int .u8 i11)), (.con (.int .u8 i12)), i13] (0 + Int.toNat i14 * 1) [(.con (.int .u8 i15))]
  (Q (.con (.bool (decide ((i15 : Int) > 0)))) [[(.row [(.con (.int .u8 i1)), (.con (.int .u8 i2)), (.con (.int .u8 i3)), (.con (.int .u8 i4)), (.con (.int .u8 i5)), (.con (.int .u8 i6)), (.con (.int .u8 i7)), (.con (.int .u8 i8)), (.con (.int .u8 i9)), (.con (.int .u8 i10)), (.con (.int .u8 i11)), (.con (.int .u8 i12)), i13])]]))
theorem a41h (i1 i2 i3 i4 i5 i6 i7 i8 i9 i10 i11 i12 i13 i14 : Int) (Q : PV → Heap → Prop) (h : p41h i1 i2 i3 i4 i5 i6 i7 i8 i9 i10 i11 i12 i13 i14 Q) : ACalls Try.prog 41 [(.agg [(.con (.int .u8 i1)), (.con (.int .u8 i2)), (.con (.int .u8 i3)), (.con (.int .u8 i4)), (.con (.int .u8 i5)), (.con (.int .u8 i6)), (.con (.int .u8 i7)), (.con (.int .u8 i8)), (.con (.int .u8 i9)), (.con (.int .u8 i10)), (.con (.int .u8 i11)), (.con (.int .u8 i12)), i13]), (.ept [i14] 0)] [] Q := by
  have hb : Option.some (bodyOf Try.f41) = Try.f41.body := by kernel_rfl
  exact acalls_eq (S := S) (L := loops32) mixed tok Try.func41 hb.symm (by kernel_rfl) h
def loops53h (id : Nat) : Option (List Nat × List (Nat × Sh)) := match Nat.beq id 2 with | true => some ([0, 1, 7], [(8, .int .i64)]) | false => none
def p53h (l1 : List (List PV)) (i2 : Int) (Q : PV → Heap → Prop) : Prop :=
∃ I3 : Nat → ((Int) × Unit) → Prop, (∃ n, I3 n (0, ())) ∧ ∀ (n4 : Nat) (v5 : (Int) × Unit), I3 n4 v5 →
  (br ((decide ((v5.1 : Int) < (List.length l1 : Int))))
  (∃ (i6 i7 i8 i9 i10 i11 i12 i13 i14 i15 i16 i17 i18 : Int), IdxN l1 v5.1 [(.con (.int .u8 i6)), (.con (.int .u8 i7)), (.con (.int .u8 i8)), (.con (.int .u8 i9)), (.con (.int .u8 i10)), (.con (.int .u8 i11)), (.con (.int .u8 i12)), (.con (.int .u8 i13)), (.con (.int .u8 i14)), (.con (.int .u8 i15)), (.con (.int .u8 i16)), (.con (.int .u8 i17)), i18]
  (∃ b19 : Bool, CallN Try.prog 41 [(.agg [(.con (.int .u8 i6)), (.con (.int .u8 i7)), (.con (.int .u8 i8)), (.con (.int .u8 i9)), (.con (.int .u8 i10)), (.con (.int .u8 i11)), (.con (.int .u8 i12)), (.con (.int .u8 i13)), (.con (.int .u8 i14)), (.con (.int .u8 i15)), (.con (.int .u8 i16)), (.con (.int .u8 i17)), i18]), (.ept [i2] 0)] [] b19
  (br (b19)
  (Q v5.1 [])
  ((@Eq PV l1 l1 ∧ @Eq PV (.fn 41 [(.ept [i2] 0)]) (.fn 41 [(.ept [i2] 0)]) ∧ @Eq PV (.con (.int .i64 (List.length l1 : Int))) (.con (.int .i64 (List.length l1 : Int))) ∧ True) ∧ @Eq Heap [] [] ∧ ∃ k20, k20 < n4 ∧ I3 k20 ((IntKind.wrap .i64 (v5.1 + 1)), ())))))
  (Q (.con (.int .i64 (-1))) []))
theorem a53h (l1 : List (List PV)) (i2 : Int) (Q : PV → Heap → Prop) (h : p53h l1 i2 Q) : ACalls Try.prog 53 [l1, (.fn 41 [(.ept [i2] 0)])] [] Q := by
  have hb : Option.some (bodyOf Try.f53) = Try.f53.body := by kernel_rfl
  exact acalls_eq (S := S) (L := loops53h) mixed tok Try.func53 hb.symm (by kernel_rfl) h
def p40h (l1 : List (List PV)) (i2 : Int) (Q : PV → Heap → Prop) : Prop :=
∃ i3 : Int, CallN Try.prog 53 [l1, (.fn 41 [(.ept [i2] 0)])] [] i3
  (Q (.con (.bool (decide ((i3 : Int) ≥ 0)))) [])
theorem a40h (l1 : List (List PV)) (i2 : Int) (Q : PV → Heap → Prop) (h : p40h l1 i2 Q) : ACalls Try.prog 40 [l1, (.fn 41 [(.ept [i2] 0)])] [] Q := by
  have hb : Option.some (bodyOf Try.f40) = Try.f40.body := by kernel_rfl
  exact acalls_eq (S := S) (L := loops32) mixed tok Try.func40 hb.symm (by kernel_rfl) h
end Go.Proofs.Ytbhbgaihhilfmaa.Deep

namespace Go.Proofs.Ytbhbgaihhilfmaa.Deep
open Go.RowKit Poly
set_option linter.unusedVariables false
set_option linter.unusedSimpArgs false
theorem unk_p (k : Int) : PCalls Try.prog 35 [.con (.int .i64 k)] (fun r => r = .con (.bool (decide (0 ≤ k) && decide (k < 12)))) := by
  refine pcalls_weak (a35 _ _ ?_)
  unfold p35
  refine br_i (fun h => ?_) (fun h => ?_)
  · have h : 0 ≤ k := by simpa using h
    exact ⟨by rw [decide_eq_true h, Bool.true_and]; rfl, rfl⟩
  · have h : ¬ 0 ≤ k := by simpa using h
    exact ⟨by rw [decide_eq_false h, Bool.false_and]; rfl, rfl⟩
theorem nan_p (n : Int) : PCalls Try.prog 58 [.con (.int .u8 n)] (fun r => r = .con (.bool false)) := by
  refine pcalls_weak (a58 _ _ ?_)
  unfold p58
  exact ⟨by rw [bne_self_eq_false]; rfl, rfl⟩
def cmpF (a b : Nat) : Int := if a < b then -1 else if b < a then 1 else 0
theorem cmp_p (a b : Nat) : PCalls Try.prog 52 [u8P a, u8P b] (fun r => r = .con (.int .i64 (cmpF a b))) := by
  have enN : Enters Try.prog 58 := enters_of Try.func58 (by kernel_rfl) rfl
  refine pcalls_weak (a52 _ _ _ ?_)
  unfold p52
  refine ⟨_, call_p enN (nan_p _) rfl ⟨_, call_p enN (nan_p _) rfl ?_⟩⟩
  refine br_i (fun h => by cases h) (fun _ => ?_)
  refine br_i (fun h => by cases h) (fun _ => ?_)
  unfold cmpF
  refine br_i (fun h => ?_) (fun h => ?_)
  · have h : a < b := by simp at h; omega
    exact ⟨by rw [if_pos h]; rfl, rfl⟩
  have h : ¬ a < b := by simp at h; omega
  refine br_i (fun h2 => ?_) (fun h2 => ?_)
  · have h2 : b < a := by simp at h2; omega
    exact ⟨by rw [if_neg h, if_pos h2]; rfl, rfl⟩
  · have h2 : ¬ b < a := by simp at h2; omega
    exact ⟨by rw [if_neg h, if_neg h2]; rfl, rfl⟩
def ordF (a b : Ex) : Int := if a = b then 0 else if lt a b then -1 else 1
theorem ordF_neg {a b : Ex} : (ordF a b < 0) ↔ lt a b = true := by
  unfold ordF
  by_cases h : a = b
  · subst h
    rw [if_pos rfl]
    constructor
    · intro h; omega
    · intro h; exact absurd ((lt_iff _ _).1 h) (Lt.irrefl _)
  · rw [if_neg h]
    split <;> rename_i h2
    · exact ⟨fun _ => h2, fun _ => by decide⟩
    · exact ⟨fun h => absurd h (by decide), fun h => absurd h h2⟩
theorem ordF_pos {a b : Ex} : (ordF a b > 0) ↔ lt b a = true := by
  unfold ordF
  by_cases h : a = b
  · subst h
    rw [if_pos rfl]
    constructor
    · intro h; omega
    · intro h; exact absurd ((lt_iff _ _).1 h) (Lt.irrefl _)
  · rw [if_neg h]
    split <;> rename_i h2
    · exact ⟨fun h => absurd h (by decide), fun h3 => absurd ((lt_iff _ _).1 h3) ((lt_iff _ _).1 h2).asymm⟩
    · refine ⟨fun _ => ?_, fun _ => by decide⟩
      apply Classical.byContradiction
      intro h3
      exact h (Lt.tri (fun q => h2 ((lt_iff _ _).2 q)) (fun q => h3 ((lt_iff _ _).2 q)))
theorem ord_at {a b : Ex} {j : Nat} (hj : j < 12) (he : ∀ i, i < j → a.at i = b.at i) (hne : a.at j ≠ b.at j) : ordF a b = cmpF (a.at j) (b.at j) := by
  have hab : a ≠ b := fun e => hne (by rw [e])
  unfold ordF cmpF
  rw [if_neg hab]
  by_cases h : a.at j < b.at j
  · rw [if_pos h, if_pos ((lt_iff _ _).2 ⟨j, hj, he, h⟩)]
  · have h2 : b.at j < a.at j := by omega
    rw [if_neg h, if_pos h2, if_neg]
    intro hl
    exact ((lt_iff _ _).1 hl).asymm ⟨j, hj, fun i hi => (he i hi).symm, h2⟩
set_option maxHeartbeats 1000000 in
theorem ord_p (x y : Tm) : PCalls Try.prog 39 [.agg (tmP x), .agg (tmP y)] (fun r => r = .con (.int .i64 (ordF x.e y.e))) := by
  have enC : Enters Try.prog 52 := enters_of Try.func52 (by kernel_rfl) rfl
  refine pcalls_weak (a39 _ _ _ _ _ _ _ _ _ _ _ _ _ _ _ _ _ _ _ _ _ _ _ _ _ _ _ ?_)
  unfold p39
  refine ⟨_, _, _, _, _, _, _, _, _, _, _, _, ⟨rfl, _, _, _, _, _, _, _, _, _, _, _, _, ⟨rfl, ⟨by kernel_rfl, by kernel_rfl, ?_⟩⟩⟩⟩
  rw [eq12]
  refine br_i (fun he => ?_) (fun hne => ?_)
  · have he : x.e = y.e := of_decide_eq_true he
    exact ⟨by unfold ordF; rw [if_pos he]; rfl, rfl⟩
  have hne : ¬ x.e = y.e := of_decide_eq_false hne
  refine ⟨fun c v => ∃ j : Nat, j ≤ 12 ∧ c = 12 - j ∧ v.1 = (j : Int) ∧ ∀ i, i < j → x.e.at i = y.e.at i, ⟨_, 0, by omega, rfl, rfl, fun i hi => absurd hi (Nat.not_lt_zero _)⟩, ?_⟩
  rintro c ⟨i, u⟩ ⟨j, hj, rfl, hi, hL⟩
  dsimp only at hi ⊢
  subst hi
  have hlt : j < 12 := by
    apply Classical.byContradiction
    intro h
    exact hne (Ex.ext (fun i hi => hL i (by omega)))
  have rx := tm_row (t := x) (i := (j : Int)) (by omega) (by omega)
  have ry := tm_row (t := y) (i := (j : Int)) (by omega) (by omega)
  refine ⟨by omega, by omega, _, ⟨rx, ⟨by omega, by omega, _, ⟨ry, ?_⟩⟩⟩⟩
  rw [Int.toNat_natCast, nat_beq]
  refine br_i (fun he => ?_) (fun hn => ?_)
  · have he : x.e.at j = y.e.at j := of_decide_eq_true he
    refine ⟨⟨rfl, rfl, trivial⟩, rfl, 12 - (j + 1), by omega, j + 1, by omega, rfl, ?_, fun i hi => ?_⟩
    · rw [wrap_id (by omega) (by omega)]; simp
    · by_cases h : i < j
      · exact hL i h
      · rw [show i = j by omega]; exact he
  · have hn : ¬ x.e.at j = y.e.at j := of_decide_eq_false hn
    refine ⟨by omega, by omega, _, ⟨rx, ⟨by omega, by omega, _, ⟨ry, ?_⟩⟩⟩⟩
    rw [Int.toNat_natCast]
    refine ⟨_, call_p enC (cmp_p _ _) rfl ?_⟩
    exact ⟨by rw [ord_at hlt hL hn]; rfl, rfl⟩
theorem plus_p (x y : Tm) (h : -4611686018427387904 ≤ x.c + y.c ∧ x.c + y.c ≤ 4611686018427387904) : PCalls Try.prog 43 [.agg (tmP x), .agg (tmP y)] (fun r => r = .agg (tmP (both true x y))) := by
  refine pcalls_weak (a43 _ _ _ _ _ _ _ _ _ _ _ _ _ _ _ _ _ _ _ _ _ _ _ _ _ _ _ ?_)
  unfold p43
  refine ⟨_, _, _, _, _, _, _, _, _, _, _, _, ⟨rfl, _, ⟨rfl, _, ⟨rfl, ⟨Nat.le_refl 13, _, _, _, _, _, _, _, _, _, _, _, _, _, ⟨rfl, ?_⟩⟩⟩⟩⟩⟩
  rw [wrap_id (by omega) (by omega)]
  exact ⟨rfl, rfl⟩
theorem greater_p (x y : Tm) : PCalls Try.prog 47 [.agg (tmP x), .agg (tmP y)] (fun r => r = .agg (tmP (both false x y))) := by
  refine pcalls_weak (a47 _ _ _ _ _ _ _ _ _ _ _ _ _ _ _ _ _ _ _ _ _ _ _ _ _ _ _ ?_)
  unfold p47
  refine ⟨_, _, _, _, _, _, _, _, _, _, _, _, ⟨rfl, _, ⟨rfl, _, ⟨rfl, ⟨Nat.le_refl 13, _, _, _, _, _, _, _, _, _, _, _, _, _, ⟨rfl, ?_⟩⟩⟩⟩⟩⟩
  rw [maxI_max]
  exact ⟨rfl, rfl⟩
theorem product_p (a b : Int) (ha : 0 ≤ a ∧ a ≤ 1099511627777) (hb : 0 ≤ b) : PCalls Try.prog 49 [.con (.int .i64 a), .con (.int .i64 b)] (fun r => r = .con (.int .i64 (satI a b))) := by
  refine pcalls_weak (a49 _ _ _ ?_)
  unfold p49
  refine br_i (fun h => ?_) (fun h => ?_)
  · have h : 0 < b := by simpa using h
    refine ⟨by omega, ?_⟩
    have hq : Int.tdiv 1099511627776 b = 1099511627776 / b := Int.tdiv_eq_ediv_of_nonneg (by decide)
    have hq0 : 0 ≤ (1099511627776 : Int) / b := Int.ediv_nonneg (by decide) (by omega)
    have hq1 : (1099511627776 : Int) / b ≤ 1099511627776 := Int.ediv_le_self _ (by decide)
    rw [hq, wrap_id (by omega) (by omega)]
    refine br_i (fun h2 => ?_) (fun h2 => ?_)
    · have h2 : 1099511627776 / b < a := by simpa using h2
      have := (Int.ediv_lt_iff_lt_mul h).1 h2
      exact ⟨by rw [show satI a b = 1099511627777 by unfold satI; omega]; rfl, rfl⟩
    · have h2 : a ≤ 1099511627776 / b := by simpa using h2
      have := (Int.le_ediv_iff_mul_le h).1 h2
      have := Int.mul_nonneg ha.1 hb
      rw [wrap_id (by omega) (by omega)]
      exact ⟨by rw [show satI a b = a * b by unfold satI; omega]; rfl, rfl⟩
  · have h : ¬ 0 < b := by simpa using h
    obtain rfl : b = 0 := by omega
    exact ⟨by rw [show satI a 0 = 0 by unfold satI; simp; omega, Int.mul_zero]; rfl, rfl⟩
theorem number_p (k : Nat) (l : List Int) : PCalls Try.prog 50 [.con (.int .i64 (k : Int)), .sl (inP l)] (fun r => r = .con (.int .i64 (nat0 (l.getD k 0)))) := by
  refine pcalls_weak (a50 _ _ _ ?_)
  unfold p50
  rw [inP_len]
  refine br_i (fun h => ?_) (fun h => ?_)
  · have h : l.length ≤ k := by simp at h; omega
    exact ⟨by rw [List.getD_eq_getElem?_getD, List.getElem?_eq_none h]; rfl, rfl⟩
  · have h : k < l.length := by simp at h; omega
    refine ⟨_, ⟨by omega, by rw [Int.toNat_natCast]; exact inP_at h, ?_⟩⟩
    rw [maxI_max]
    exact ⟨rfl, rfl⟩
def addTo (a b : Ex) (q : Nat) : Ex := fun j => if j.1 < q then a j + b j else a j
theorem addTo_zero (a b : Ex) : addTo a b 0 = a := by funext j; simp [addTo]
theorem addTo_all (a b : Ex) : addTo a b 12 = addE a b := by funext j; simp [addTo, addE]
theorem addTo_at (a b : Ex) (q k : Nat) : (addTo a b q).at k = if k < q then a.at k + b.at k else a.at k := by
  unfold addTo Ex.at
  by_cases h : k < 12
  · simp [h]
  · simp [h]
theorem addTo_succ {a b : Ex} {q : Nat} (hq : q < 12) : setE (addTo a b q) q (a.at q + b.at q) = addTo a b (q + 1) := by
  refine Ex.ext (fun i hi => ?_)
  rw [setE_at, addTo_at, addTo_at]
  by_cases h : i = q
  · subst h; simp [hi]
  · by_cases h2 : i < q
    · rw [if_neg (by omega), if_pos h2, if_pos (by omega)]
    · rw [if_neg (by omega), if_neg h2, if_neg (by omega)]
theorem ex_set {e : Ex} {i : Int} (n : Nat) (h0 : 0 ≤ i) (h1 : i < 12) : splice (0 + i.toNat * 1) [u8P n] (exP e) = exP (setE e i.toNat n) := by
  obtain ⟨k, rfl⟩ : ∃ k : Nat, i = k := ⟨i.toNat, by omega⟩
  have hk : k < 12 := by omega
  rw [Int.toNat_natCast, Nat.mul_one, Nat.zero_add]
  match k, hk with
  | 0, _ => simp [exP, setE_at, splice]
  | 1, _ => simp [exP, setE_at, splice]
  | 2, _ => simp [exP, setE_at, splice]
  | 3, _ => simp [exP, setE_at, splice]
  | 4, _ => simp [exP, setE_at, splice]
  | 5, _ => simp [exP, setE_at, splice]
  | 6, _ => simp [exP, setE_at, splice]
  | 7, _ => simp [exP, setE_at, splice]
  | 8, _ => simp [exP, setE_at, splice]
  | 9, _ => simp [exP, setE_at, splice]
  | 10, _ => simp [exP, setE_at, splice]
  | 11, _ => simp [exP, setE_at, splice]
set_option maxHeartbeats 1000000 in
theorem together_p (a b : Ex) (h : ∀ k, k < 12 → a.at k + b.at k ≤ 255) : PCalls Try.prog 56 [.agg (exP a), .agg (exP b)] (fun r => r = .agg (exP (addE a b))) := by
  refine pcalls_weak (a56 _ _ _ _ _ _ _ _ _ _ _ _ _ _ _ _ _ _ _ _ _ _ _ _ _ ?_)
  unfold p56
  refine ⟨_, _, _, _, _, _, _, _, _, _, _, _, ⟨rfl, ?_⟩⟩
  refine ⟨fun c v => ∃ j : Nat, j ≤ 12 ∧ c = 12 - j ∧ v.1 = (j : Int) ∧ v.2.1 = exP (addTo a b j), ⟨_, 0, by omega, rfl, rfl, by rw [addTo_zero]; rfl⟩, ?_⟩
  rintro c ⟨i, l, u⟩ ⟨j, hj, rfl, hi, hL⟩
  dsimp only at hi hL ⊢
  subst hi hL
  refine br_i (fun hlt => ?_) (fun hge => ?_)
  rotate_left
  · obtain rfl : j = 12 := by simp at hge; omega
    rw [addTo_all]
    refine ⟨_, _, _, _, _, _, _, _, _, _, _, _, ⟨rfl, ⟨Nat.le_refl 12, _, _, _, _, _, _, _, _, _, _, _, _, ⟨rfl, ?_⟩⟩⟩⟩
    exact ⟨rfl, rfl⟩
  have hlt : j < 12 := by simp at hlt; omega
  have ra := ex_row (e := addTo a b j) (i := (j : Int)) (by omega) (by omega)
  have rb := ex_row (e := b) (i := (j : Int)) (by omega) (by omega)
  refine ⟨by omega, by omega, _, ⟨rb, ⟨by omega, by omega, _, ⟨ra, ⟨by omega, by omega, ⟨?_, ?_⟩⟩⟩⟩⟩⟩
  · show 0 + (j : Int).toNat * 1 + 1 ≤ 12
    omega
  have hs := h j hlt
  have e1 : (addTo a b j).at ((j : Int).toNat) = a.at j := by rw [Int.toNat_natCast, addTo_at, if_neg (by omega)]
  have e2 : IntKind.u8.wrap (((addTo a b j).at ((j : Int).toNat) : Int) + (b.at ((j : Int).toNat) : Int)) = ((a.at j + b.at j : Nat) : Int) := by
    rw [e1, Int.toNat_natCast, wrap8_id (by omega) (by omega)]; omega
  refine ⟨⟨rfl, rfl, rfl, trivial⟩, rfl, 12 - (j + 1), by omega, j + 1, by omega, rfl, ?_, ?_⟩
  · rw [wrap_id (by omega) (by omega)]; simp
  · show splice (0 + (j : Int).toNat * 1) [.con (.int .u8 (IntKind.u8.wrap (((addTo a b j).at ((j : Int).toNat) : Int) + (b.at ((j : Int).toNat) : Int))))] (exP (addTo a b j)) = _
    rw [e2, ← addTo_succ hlt]
    have := ex_set (e := addTo a b j) (i := (j : Int)) (a.at j + b.at j) (by omega) (by omega)
    rw [Int.toNat_natCast] at this ⊢
    exact this
end Go.Proofs.Ytbhbgaihhilfmaa.Deep

namespace Go.Proofs.Ytbhbgaihhilfmaa.Deep
open Go.RowKit Poly
set_option linter.unusedVariables false
set_option linter.unusedSimpArgs false
def maxTo (e : Ex) : Nat → Nat
  | 0 => 0
  | j + 1 => max (maxTo e j) (e.at j)
theorem maxTo_le (e : Ex) : ∀ j, maxTo e j ≤ 6 ↔ ∀ k, k < j → e.at k ≤ 6
  | 0 => by simp [maxTo]
  | j + 1 => by
    have := maxTo_le e j
    constructor
    · intro h k hk
      have h1 : maxTo e j ≤ 6 ∧ e.at j ≤ 6 := by unfold maxTo at h; omega
      by_cases hkj : k = j
      · subst hkj; exact h1.2
      · exact this.1 h1.1 k (by omega)
    · intro h
      have h1 := this.2 (fun k hk => h k (by omega))
      have h2 := h j (by omega)
      unfold maxTo; omega
theorem smax_p (x : Tm) : ACalls Try.prog 51 [.rw 0 0 12 5 1] [[.row (tmP x)]] (fun r h' => r = .con (.int .u8 (maxTo x.e 12)) ∧ h' = [[.row (tmP x)]]) := by
  refine a51 _ _ _ ?_
  unfold p51
  refine br_i (fun h => by simp at h) (fun _ => ?_)
  have r0 := tm_row (t := x) (i := 0) (by omega) (by omega)
  refine ⟨by omega, by decide, _, ⟨r0, ?_⟩⟩
  refine ⟨fun c v => ∃ j : Nat, 1 ≤ j ∧ j ≤ 12 ∧ c = 12 - j ∧ v.2.1 = (j : Int) ∧ v.1 = (maxTo x.e j : Int), ⟨_, 1, by omega, by omega, rfl, rfl, by show ((x.e.at 0 : Nat) : Int) = ((max 0 (x.e.at 0) : Nat) : Int); omega⟩, ?_⟩
  rintro c ⟨m, i, u⟩ ⟨j, h1, hj, rfl, hi, hm⟩
  dsimp only at hi hm ⊢
  subst hi hm
  refine br_i (fun hlt => ?_) (fun hge => ?_)
  rotate_left
  · obtain rfl : j = 12 := by simp at hge; omega
    exact ⟨rfl, rfl⟩
  have hlt : j < 12 := by simp at hlt; omega
  have rj := tm_row (t := x) (i := (j : Int)) (by omega) (by omega)
  refine ⟨by omega, by omega, _, ⟨rj, ?_⟩⟩
  refine ⟨⟨rfl, trivial⟩, rfl, 12 - (j + 1), by omega, j + 1, by omega, by omega, rfl, ?_, ?_⟩
  · rw [wrap_id (by omega) (by omega)]; simp
  · rw [maxI_max, Int.toNat_natCast]
    show max ((maxTo x.e j : Nat) : Int) ((x.e.at j : Nat) : Int) = ((max (maxTo x.e j) (x.e.at j) : Nat) : Int)
    omega
theorem can_p (t : Tm) : PCalls Try.prog 38 [.agg (tmP t)] (fun r => r = .con (.bool (tmOk t))) := by
  refine pcalls_weak (a38 _ _ _ _ _ _ _ _ _ _ _ _ _ _ ?_)
  unfold p38
  have hT : tmOk t = (decide (1 ≤ t.c) && decide (t.c ≤ 1099511627776) && decide (maxTo t.e 12 ≤ 6)) := by
    have : expOk t.e = decide (maxTo t.e 12 ≤ 6) := by rw [Bool.eq_iff_iff, expOk_iff, decide_eq_true_iff, maxTo_le]
    unfold tmOk
    rw [this]
  rw [hT]
  refine ⟨_, ⟨rfl, ?_⟩⟩
  refine br_i (fun h => ?_) (fun h => ?_)
  rotate_left
  · have h : ¬ 1 ≤ t.c := by simp at h; omega
    exact ⟨by rw [decide_eq_false h]; rfl, rfl⟩
  have h : 1 ≤ t.c := by simp at h; omega
  refine ⟨_, ⟨rfl, ?_⟩⟩
  refine br_i (fun h2 => ?_) (fun h2 => ?_)
  rotate_left
  · have h2 : ¬ t.c ≤ 1099511627776 := by simp at h2; omega
    exact ⟨by rw [decide_eq_false h2, Bool.and_false]; rfl, rfl⟩
  have h2 : t.c ≤ 1099511627776 := by simp at h2; omega
  refine ⟨by show 0 + 12 ≤ 13; omega, ?_⟩
  refine ⟨_, ⟨enters_of Try.func51 (by kernel_rfl) rfl, smax_p t, ?_⟩⟩
  have h3 : decide ((maxTo t.e 12 : Int) ≤ 6) = decide (maxTo t.e 12 ≤ 6) := by
    rw [Bool.eq_iff_iff, decide_eq_true_iff, decide_eq_true_iff]
    omega
  rw [decide_eq_true h, decide_eq_true h2, Bool.true_and, Bool.true_and, ← h3]
  exact ⟨rfl, rfl⟩
theorem fitL_cons (pr : Option Ex) (x : Tm) (r : List Tm) : fitL pr (x :: r) = (tmOk x && (match pr with | none => true | some e => lt e x.e) && fitL (some x.e) r) := by
  have h : fitL pr (x :: r) = ((decide (1 ≤ x.c) && decide (x.c ≤ 1099511627776)) && (match pr with | none => true | some e => lt e x.e) && expOk x.e && fitL (some x.e) r) := by cases pr <;> rfl
  rw [h]
  unfold tmOk
  generalize (decide (1 ≤ x.c) && decide (x.c ≤ 1099511627776)) = A
  generalize (match pr with | none => true | some e => lt e x.e) = B
  generalize expOk x.e = C
  cases A <;> cases B <;> cases C <;> rfl
set_option maxHeartbeats 1000000 in
theorem fit_p (p : List Tm) : PCalls Try.prog 19 [.sl (plP p)] (fun r => r = .con (.bool (fitF p))) := by
  have enC : Enters Try.prog 38 := enters_of Try.func38 (by kernel_rfl) rfl
  have enO : Enters Try.prog 39 := enters_of Try.func39 (by kernel_rfl) rfl
  refine pcalls_weak (a19 _ _ ?_)
  unfold p19
  rw [plP_len]
  refine br_i (fun h64 => ?_) (fun h64 => ?_)
  · have h64 : ¬ p.length ≤ 64 := by simp at h64; omega
    have : fitF p = false := by unfold fitF; rw [decide_eq_false h64]; rfl
    exact ⟨by rw [this]; rfl, rfl⟩
  have h64 : p.length ≤ 64 := by simp at h64; omega
  have hF : fitF p = fitL none p := by unfold fitF; rw [decide_eq_true h64]; rfl
  rw [hF]
  obtain ⟨R, hR⟩ : ∃ R, fitL none p = R := ⟨_, rfl⟩
  rw [hR]
  refine ⟨fun c v => ∃ j : Nat, j ≤ p.length ∧ c = p.length - j ∧ v.1 = (j : Int) ∧ fitL (prv p j) (p.drop j) = R, ⟨_, 0, Nat.zero_le _, rfl, rfl, hR⟩, ?_⟩
  rintro c ⟨i, u⟩ ⟨j, hj, rfl, hi, hL⟩
  dsimp only at hi hL ⊢
  subst hi
  refine br_i (fun hlt => ?_) (fun hge => ?_)
  rotate_left
  · have hge : ¬ j < p.length := by simpa using hge
    rw [List.drop_of_length_le (by omega), fitL] at hL
    exact ⟨by rw [← hL]; rfl, rfl⟩
  have hlt : j < p.length := by simpa using hlt
  have hxj : p[j]? = some p[j] := List.getElem?_eq_getElem hlt
  rw [List.drop_eq_getElem_cons hlt] at hL
  have hnx : prv p (j + 1) = some (p[j]).e := by simp [prv, hxj]
  have hx := plP_at hxj
  generalize p[j] = x at *
  have hw : IntKind.i64.wrap ((j : Int) + 1) = ((j + 1 : Nat) : Int) := by rw [wrap_id (by omega) (by omega)]; simp
  rw [fitL_cons] at hL
  refine ⟨_, _, _, _, _, _, _, _, _, _, _, _, _, ⟨by omega, by rw [Int.toNat_natCast]; exact hx, ⟨Nat.le_refl 13, _, _, _, _, _, _, _, _, _, _, _, _, _, ⟨rfl, ?_⟩⟩⟩⟩
  refine ⟨_, call_p enC (can_p x) rfl ?_⟩
  refine br_i (fun h => ?_) (fun h => ?_)
  · have h : tmOk x = false := by simpa using h
    rw [h, Bool.false_and, Bool.false_and] at hL
    exact ⟨by rw [← hL]; rfl, rfl⟩
  have h : tmOk x = true := by simpa using h
  rw [h, Bool.true_and] at hL
  refine br_i (fun h0 => ?_) (fun h0 => ?_)
  · obtain ⟨k, rfl⟩ : ∃ k, j = k + 1 := ⟨j - 1, by simp at h0; omega⟩
    obtain ⟨y, hy⟩ : ∃ y, p[k]? = some y := ⟨_, List.getElem?_eq_getElem (by omega)⟩
    have hyp := plP_at hy
    have hwk : IntKind.i64.wrap (((k + 1 : Nat) : Int) - 1) = (k : Int) := by rw [wrap_id (by omega) (by omega)]; omega
    rw [hwk]
    have hpk : prv p (k + 1) = some y.e := by simp [prv, hy]
    rw [hpk] at hL
    simp only at hL
    refine ⟨_, _, _, _, _, _, _, _, _, _, _, _, _, ⟨by omega, by rw [Int.toNat_natCast]; exact hyp, _, _, _, _, _, _, _, _, _, _, _, _, _, ⟨rfl, _, call_p enO (ord_p y x) rfl ?_⟩⟩⟩
    refine br_i (fun h3 => ?_) (fun h3 => ?_)
    · have h3 : lt y.e x.e = false := by
        have h3 : 0 ≤ ordF y.e x.e := by simpa using h3
        cases hq : lt y.e x.e with
        | false => rfl
        | true => have := ordF_neg.2 hq; omega
      rw [h3, Bool.false_and] at hL
      exact ⟨by rw [← hL]; rfl, rfl⟩
    have h3 : lt y.e x.e = true := by
      have h3 : ordF y.e x.e < 0 := by simpa using h3
      exact ordF_neg.1 h3
    rw [h3, Bool.true_and] at hL
    exact ⟨⟨rfl, rfl, rfl, trivial⟩, rfl, p.length - (k + 1 + 1), by omega, k + 1 + 1, by omega, rfl, hw, by rw [hnx]; exact hL⟩
  · obtain rfl : j = 0 := by simp at h0; omega
    have hL : fitL (some x.e) (p.drop 1) = R := by simpa [prv] using hL
    exact ⟨⟨rfl, rfl, rfl, trivial⟩, rfl, p.length - (0 + 1), by omega, 0 + 1, by omega, rfl, hw, by rw [hnx]; exact hL⟩
theorem fitting_p (p : List Tm) : PCalls Try.prog 34 [.sl (plP p)] (fun r => r = resP (fitO p)) := by
  refine pcalls_weak (a34 _ _ ?_)
  unfold p34 fitO
  refine ⟨_, call_p (enters_of Try.func19 (by kernel_rfl) rfl) (fit_p p) rfl ?_⟩
  refine br_i (fun h => ?_) (fun h => ?_)
  · have h : fitF p = false := by simpa using h
    rw [h]; exact ⟨rfl, rfl⟩
  · have h : fitF p = true := by simpa using h
    rw [h]; exact ⟨rfl, rfl⟩
theorem numF_fit {n : Int} (h : ¬ n < 1) : fitO [⟨n, zeroE⟩] = numF n := by
  unfold fitO numF
  by_cases hb : n > 1099511627776
  · rw [if_pos hb]
    have : fitF [⟨n, zeroE⟩] = false := by
      cases hq : fitF [⟨n, zeroE⟩] with
      | false => rfl
      | true => have := ((fitF_iff _).1 hq).ok ⟨n, zeroE⟩ (by simp); simp only at this; omega
    rw [this]; rfl
  · rw [if_neg hb, if_neg h, (fitF_iff _).2 (num_ok (by omega) (by omega))]; rfl
theorem num_p (n : Int) : PCalls Try.prog 11 [.con (.int .i64 n)] (fun r => r = resP (numF n)) := by
  refine pcalls_weak (a11 _ _ ?_)
  unfold p11
  refine br_i (fun h => ?_) (fun h => ?_)
  · have h : n < 1 := by simpa using h
    have : numF n = ([], 0) := by unfold numF; rw [if_neg (by omega), if_pos h]
    rw [this]; exact ⟨rfl, rfl⟩
  · have h : ¬ n < 1 := by simpa using h
    have hp := fitting_p [⟨n, zeroE⟩]
    rw [numF_fit h] at hp
    refine ⟨_, _, call_p (enters_of Try.func34 (by kernel_rfl) rfl) hp rfl ?_⟩
    exact ⟨rfl, rfl⟩
theorem var_p (k : Int) : PCalls Try.prog 13 [.con (.int .i64 k)] (fun r => r = resP (varF k)) := by
  refine pcalls_weak (a13 _ _ ?_)
  unfold p13 varF
  refine ⟨_, call_p (enters_of Try.func35 (by kernel_rfl) rfl) (unk_p k) rfl ?_⟩
  refine br_i (fun h => ?_) (fun h => ?_)
  · rw [if_pos (by simp at h; omega)]; exact ⟨rfl, rfl⟩
  have h : 0 ≤ k ∧ k < 12 := by simpa using h
  rw [if_neg (by omega)]
  have e := tm_set (t := ⟨1, zeroE⟩) (i := k) 1 h.1 h.2
  rw [oneE_set] at e
  refine ⟨Nat.le_refl 13, ⟨by omega, by omega, ⟨?_, ?_⟩⟩⟩
  · show 0 + k.toNat * 1 + 1 ≤ 13
    omega
  · show ∃ _ _ _ _ _ _ _ _ _ _ _ _ _, RowN (splice (0 + k.toNat * 1) [u8P 1] (tmP ⟨1, zeroE⟩)) 0 _ _
    rw [e]
    refine ⟨_, _, _, _, _, _, _, _, _, _, _, _, _, ⟨rfl, ?_⟩⟩
    exact ⟨rfl, rfl⟩
theorem flatP_len (p : List Tm) : (plP p).flatten.length = p.length * 13 := by
  induction p with
  | nil => rfl
  | cons t r ih =>
    show (tmP t ++ (plP r).flatten).length = _
    rw [List.length_append, ih, tm_len, List.length_cons]; omega
theorem flatP_one (p : List Tm) : ∀ q ∈ (plP p).flatten, PV.one q = true := fun q hq => by
  obtain ⟨y, hy, hq⟩ := List.mem_flatten.1 hq
  exact (one_tm p y hy).2 q hq
theorem row_at : ∀ (i : Nat) (p : List Tm) (h : i < p.length), ((plP p).flatten.drop (i * 13)).take 13 = tmP p[i]
  | 0, [], h => by simp at h
  | 0, t :: r, h => by
    show ((tmP t ++ (plP r).flatten).drop (0 * 13)).take 13 = tmP t
    rw [Nat.zero_mul, List.drop_zero, List.take_append_of_le_length (by rw [tm_len]; omega), List.take_of_length_le (by rw [tm_len]; omega)]
  | i + 1, [], h => by simp at h
  | i + 1, t :: r, h => by
    show ((tmP t ++ (plP r).flatten).drop ((i + 1) * 13)).take 13 = tmP (r[i]'(by simpa using h))
    rw [show (i + 1) * 13 = (tmP t).length + i * 13 by rw [tm_len]; omega, List.drop_append]
    simp only [Nat.add_sub_cancel_left, List.drop_of_length_le (show (tmP t).length ≤ (tmP t).length + i * 13 by omega), List.nil_append]
    exact row_at i r (by simpa using h)
theorem rows_flat (p : List Tm) : rowsOf 13 p.length (plP p).flatten = plP p := by
  refine List.ext_getElem? (fun i => ?_)
  by_cases h : i < p.length
  · have e := rowsOf_at (sz := 13) (n := p.length) (i := i) (l := (plP p).flatten) h
    have h1 : i < (rowsOf 13 p.length (plP p).flatten).length := by rw [rowsOf_length]; exact h
    rw [List.getD_eq_getElem?_getD, List.getElem?_eq_getElem h1, row_at i p h] at e
    rw [List.getElem?_eq_getElem h1, plP_at (List.getElem?_eq_getElem h)]
    exact congrArg some e
  · rw [List.getElem?_eq_none (by rw [rowsOf_length]; omega), List.getElem?_eq_none (by rw [plP_len]; omega)]
theorem seal_p {f : FuncId} {args : List PV} {p : List Tm} (c : ACalls Try.prog f args [] fun r h' => ∃ b n e, r = .rw b 0 n e 13 ∧ b < h'.length ∧ h'.getD b [] = [.row (plP p).flatten] ∧ n = p.length) : PCalls Try.prog f args (fun r => r = .sl (plP p)) := by
  have c2 : ACalls Try.prog f args [] fun r h' => ∃ b n l e, r = .rw b 0 n e 13 ∧ b < h'.length ∧ h'.getD b [] = [.row l] ∧ l.length = n * 13 ∧ l = (plP p).flatten :=
    c.mono fun r h' ⟨b, n, e, h1, h2, h3, h4⟩ => ⟨b, n, _, e, h1, h2, h3, by rw [flatP_len, h4], rfl⟩
  refine ACalls.mono (ACalls.seal (by decide) c2) fun r _ ⟨⟨n, l, h1, h2, h3⟩, hu⟩ => ⟨?_, hu⟩
  rw [h3, h2]
  rw [h2, flatP_len] at h1
  rw [show n = p.length by omega, rows_flat]
def zeroR (n : Nat) : List PV := (List.replicate n (tmP ⟨0, zeroE⟩)).flatten
theorem zeroR_len (n : Nat) : (zeroR n).length = n * 13 := by
  unfold zeroR
  induction n with
  | zero => rfl
  | succ n ih => rw [List.replicate_succ, List.flatten_cons, List.length_append, ih, tm_len]; omega
theorem grow_p (n : Nat) (hn : n ≤ 1000000) : ACalls Try.prog 54 [.con (.slice none 0 0), .con (.int .i64 (n : Int))] [] (fun r h' => r = .rw 0 0 0 59 13 ∧ h' = [[.row (zeroR n)]]) := by
  refine a54 _ _ ?_
  unfold p54
  have e0 : ((([] : List (List PV)).length : Nat) : Int) = 0 := rfl
  have e1 : IntKind.i64.wrap ((n : Int) - IntKind.i64.wrap (0 - ((([] : List (List PV)).length : Nat) : Int))) = (n : Int) := by
    rw [e0, wrap_id (n := 0 - 0) (by omega) (by omega), wrap_id (by omega) (by omega)]; omega
  rw [e1]
  refine br_i (fun h => by simp at h; omega) (fun _ => ?_)
  refine br_i (fun h => ?_) (fun h => ?_)
  · have h : 0 < (n : Int) := by simpa using h
    refine ⟨by omega, by omega, by omega, h, ⟨by rw [Int.toNat_natCast]; omega, by omega, ?_, ?_, ?_⟩⟩
    · rw [Int.toNat_natCast]; exact zeroR_len n
    · intro q hq
      obtain ⟨y, hy, hq⟩ := List.mem_flatten.1 hq
      rw [List.eq_of_mem_replicate hy] at hq
      simp only [List.mem_cons, List.not_mem_nil, or_false] at hq
      rcases hq with rfl | rfl | rfl | rfl | rfl | rfl | rfl | rfl | rfl | rfl | rfl | rfl | rfl <;> rfl
    · refine ⟨by omega, by rw [e0]; omega, by rw [e0]; omega, ?_⟩
      rw [Int.toNat_natCast]
      exact ⟨rfl, rfl⟩
  · have h : ¬ 0 < (n : Int) := by simpa using h
    obtain rfl : n = 0 := by omega
    exact ⟨rfl, rfl⟩
theorem take_app {n : Nat} {r cs : List PV} {o : List Tm} {x : Tm} (h : r.take (o.length * 13) = (plP o).flatten) (hn : n = o.length) (hc : cs = tmP x) : (r.take (n * 13) ++ [cs].flatten).take ((o ++ [x]).length * 13) = (plP (o ++ [x])).flatten := by
  subst hn hc
  rw [h]
  have e : (plP o).flatten ++ [tmP x].flatten = (plP (o ++ [x])).flatten := by
    rw [plP_app, List.flatten_append]; rfl
  rw [e, ← flatP_len, List.take_length]
theorem take_len {r : List PV} {o : List Tm} (h : r.take (o.length * 13) = (plP o).flatten) : o.length * 13 ≤ r.length := by
  have := congrArg List.length h
  rw [List.length_take, flatP_len] at this
  omega
theorem tm_one (x : Tm) : ∀ q ∈ [tmP x].flatten, PV.one q = true := fun q hq => flatP_one [x] q hq
set_option maxHeartbeats 2000000 in
theorem merges_p (a b : List Tm) (ha : a.length + b.length ≤ 1000) (hca : ∀ x ∈ a, 0 ≤ x.c ∧ x.c ≤ 2199023255552) (hcb : ∀ x ∈ b, 0 ≤ x.c ∧ x.c ≤ 2199023255552) : PCalls Try.prog 42 [.sl (plP a), .sl (plP b), .fn 39 [], .fn 43 []] (fun r => r = .sl (plP (mg true a b))) := by
  have enO : Enters Try.prog 39 := enters_of Try.func39 (by kernel_rfl) rfl
  have enB : Enters Try.prog 43 := enters_of Try.func43 (by kernel_rfl) rfl
  refine seal_p (a42s _ _ _ ?_)
  unfold p42s
  rw [plP_len, plP_len]
  have hg := grow_p (a.length + b.length) (by omega)
  have ew : IntKind.i64.wrap ((a.length : Int) + (b.length : Int)) = ((a.length + b.length : Nat) : Int) := by rw [wrap_id (by omega) (by omega)]; omega
  rw [ew]
  refine ⟨_, _, ⟨enters_of Try.func54 (by kernel_rfl) rfl, hg, ?_⟩⟩
  refine ⟨fun c v => ∃ a' b' o : List Tm, c = a'.length + b'.length ∧ v.1 = plP a' ∧ v.2.1 = plP b' ∧ v.2.2.1.1 = o.length ∧ v.2.2.1.2.take (o.length * 13) = (plP o).flatten ∧ o ++ mg true a' b' = mg true a b ∧ o.length + a'.length + b'.length ≤ 1000 ∧ (∀ x ∈ a', 0 ≤ x.c ∧ x.c ≤ 2199023255552) ∧ ∀ x ∈ b', 0 ≤ x.c ∧ x.c ≤ 2199023255552, ⟨_, a, b, [], rfl, rfl, rfl, rfl, rfl, rfl, by simpa using ha, hca, hcb⟩, ?_⟩
  rintro c ⟨l1, l2, ⟨n, r⟩, u⟩ ⟨a', b', o, rfl, h1, h2, hn, hr, hL, hlen, ca, cb⟩
  dsimp only at h1 h2 hn hr ⊢
  subst h1 h2 hn
  have fin : (a' = [] ∨ b' = []) → AppR o.length (plP a').length r.length (plP a').flatten 13 24 PV.one
      (AppR (o.length + (plP a').length) (plP b').length (r.take (o.length * 13) ++ (plP a').flatten).length (plP b').flatten 13 24 PV.one
      (∃ b1 n1 e1, (PV.rw 3 0 (o.length + (plP a').length + (plP b').length) 59 13) = .rw b1 0 n1 e1 13 ∧ b1 < ([[], [], [], [.row ((r.take (o.length * 13) ++ (plP a').flatten).take ((o.length + (plP a').length) * 13) ++ (plP b').flatten)]] : Heap).length ∧ ([[], [], [], [.row ((r.take (o.length * 13) ++ (plP a').flatten).take ((o.length + (plP a').length) * 13) ++ (plP b').flatten)]] : Heap).getD b1 [] = [.row (plP (mg true a b)).flatten] ∧ n1 = (mg true a b).length)) := fun he => by
    have hmg : mg true a' b' = a' ++ b' := by
      rcases he with rfl | rfl
      · rw [nil_mg]; rfl
      · rw [mg_nil, List.append_nil]
    rw [hmg] at hL
    have hrl := take_len hr
    rw [plP_len, plP_len, hr]
    have e2 : (plP o).flatten ++ (plP a').flatten = (plP (o ++ a')).flatten := by rw [plP_app, List.flatten_append]
    rw [e2]
    have e3 : ((plP (o ++ a')).flatten).take ((o.length + a'.length) * 13) = (plP (o ++ a')).flatten := by
      rw [show (o.length + a'.length) * 13 = (plP (o ++ a')).flatten.length by rw [flatP_len, List.length_append], List.take_length]
    rw [e3]
    have e4 : (plP (o ++ a')).flatten ++ (plP b').flatten = (plP (mg true a b)).flatten := by rw [← hL, plP_app o (a' ++ b'), plP_app a' b', plP_app o a']; simp [List.flatten_append]
    rw [e4]
    refine ⟨by omega, hrl, flatP_len _, flatP_one _, ⟨by omega, by rw [flatP_len, List.length_append]; exact Nat.le_refl _, flatP_len _, flatP_one _, ?_⟩⟩
    exact ⟨3, _, _, rfl, by show 3 < 4; omega, rfl, by rw [← hL]; simp; omega⟩
  refine br_i (fun hp1 => ?_) (fun hp1 => ?_)
  rotate_left
  · rw [plP_len] at hp1
    exact fin (.inl (List.eq_nil_of_length_eq_zero (by have := of_decide_eq_false hp1; omega)))
  refine br_i (fun hp2 => ?_) (fun hp2 => ?_)
  rotate_left
  · rw [plP_len] at hp2
    exact fin (.inr (List.eq_nil_of_length_eq_zero (by have := of_decide_eq_false hp2; omega)))
  clear fin
  rw [plP_len] at hp1 hp2
  cases a' with
  | nil => simp at hp1
  | cons x a' =>
  cases b' with
  | nil => simp at hp2
  | cons y b' =>
  simp only [List.length_cons] at hlen
  have hrl := take_len hr
  have cutL : ∀ (z : Tm) (q : List Tm) (X : Prop), X → CutN (plP (z :: q)) 13 1 1 X := fun z q X hX => ⟨rfl, by rw [plP_len]; simp, fun w hw => (one_tm _ w hw).1, hX⟩
  have app : ∀ (z : Tm) (X : Prop), X → AppRG True o.length [tmP z].length r.length [tmP z].flatten 13 24 PV.one X := fun z X hX => ⟨fun _ => ⟨by show (o.length + 1) * 24 ≤ _; omega, hrl, rfl, tm_one z⟩, hX⟩
  refine ⟨_, _, _, _, _, _, _, _, _, _, _, _, _, ⟨by decide, rfl, _, _, _, _, _, _, _, _, _, _, _, _, _, ⟨by decide, rfl, _, call_p enO (ord_p x y) rfl ?_⟩⟩⟩
  refine br_i (fun hl => ?_) (fun hl => ?_)
  · have hl : lt x.e y.e = true := ordF_neg.1 (by simpa using hl)
    rw [mg_cons, if_pos hl] at hL
    refine ⟨_, _, _, _, _, _, _, _, _, _, _, _, _, ⟨by decide, rfl, app x _ ⟨1, cutL x a' _ ?_⟩⟩⟩
    exact ⟨⟨rfl, rfl, trivial⟩, rfl, a'.length + (b'.length + 1), by simp <;> omega, a', y :: b', o ++ [x], by simp, rfl, rfl, by simp, take_app hr rfl rfl, by rw [List.append_assoc]; exact hL, by simp <;> omega, fun z hz => ca z (by simp [hz]), cb⟩
  have hl : ¬ lt x.e y.e = true := fun q => by
    have := ordF_neg.2 q
    simp at hl; omega
  refine br_i (fun hg => ?_) (fun hg => ?_)
  · have hg : lt y.e x.e = true := ordF_pos.1 (by simpa using hg)
    rw [mg_cons, if_neg hl, if_pos hg] at hL
    refine ⟨_, _, _, _, _, _, _, _, _, _, _, _, _, ⟨by decide, rfl, app y _ ⟨1, cutL y b' _ ?_⟩⟩⟩
    exact ⟨⟨rfl, rfl, trivial⟩, rfl, a'.length + 1 + b'.length, by simp <;> omega, x :: a', b', o ++ [y], by simp, rfl, rfl, by simp, take_app hr rfl rfl, by rw [List.append_assoc]; exact hL, by simp <;> omega, ca, fun z hz => cb z (by simp [hz])⟩
  have hg : ¬ lt y.e x.e = true := fun q => by
    have := ordF_pos.2 q
    simp at hg; omega
  rw [mg_cons, if_neg hl, if_neg hg] at hL
  refine ⟨_, _, _, _, _, _, _, _, _, _, _, _, _, ⟨by decide, rfl, _, _, _, _, _, _, _, _, _, _, _, _, _, ⟨by decide, rfl, _, _, _, _, _, _, _, _, _, _, _, _, _, call_p enB (plus_p x y (by have := ca x (by simp); have := cb y (by simp); omega)) rfl (app (both true x y) _ ⟨1, cutL x a' _ ⟨1, cutL y b' _ ?_⟩⟩)⟩⟩⟩
  exact ⟨⟨rfl, rfl, trivial⟩, rfl, a'.length + b'.length, by simp <;> omega, a', b', o ++ [both true x y], rfl, rfl, rfl, by simp, take_app hr rfl rfl, by rw [List.append_assoc]; exact hL, by simp <;> omega, fun z hz => ca z (by simp [hz]), fun z hz => cb z (by simp [hz])⟩
set_option maxHeartbeats 2000000 in
theorem mergeg_p (a b : List Tm) (ha : a.length + b.length ≤ 1000) : PCalls Try.prog 42 [.sl (plP a), .sl (plP b), .fn 39 [], .fn 47 []] (fun r => r = .sl (plP (mg false a b))) := by
  have enO : Enters Try.prog 39 := enters_of Try.func39 (by kernel_rfl) rfl
  have enB : Enters Try.prog 47 := enters_of Try.func47 (by kernel_rfl) rfl
  refine seal_p (a42g _ _ _ ?_)
  unfold p42g
  rw [plP_len, plP_len]
  have hg := grow_p (a.length + b.length) (by omega)
  have ew : IntKind.i64.wrap ((a.length : Int) + (b.length : Int)) = ((a.length + b.length : Nat) : Int) := by rw [wrap_id (by omega) (by omega)]; omega
  rw [ew]
  refine ⟨_, _, ⟨enters_of Try.func54 (by kernel_rfl) rfl, hg, ?_⟩⟩
  refine ⟨fun c v => ∃ a' b' o : List Tm, c = a'.length + b'.length ∧ v.1 = plP a' ∧ v.2.1 = plP b' ∧ v.2.2.1.1 = o.length ∧ v.2.2.1.2.take (o.length * 13) = (plP o).flatten ∧ o ++ mg false a' b' = mg false a b ∧ o.length + a'.length + b'.length ≤ 1000, ⟨_, a, b, [], rfl, rfl, rfl, rfl, rfl, rfl, by simpa using ha⟩, ?_⟩
  rintro c ⟨l1, l2, ⟨n, r⟩, u⟩ ⟨a', b', o, rfl, h1, h2, hn, hr, hL, hlen⟩
  dsimp only at h1 h2 hn hr ⊢
  subst h1 h2 hn
  have fin : (a' = [] ∨ b' = []) → AppR o.length (plP a').length r.length (plP a').flatten 13 24 PV.one
      (AppR (o.length + (plP a').length) (plP b').length (r.take (o.length * 13) ++ (plP a').flatten).length (plP b').flatten 13 24 PV.one
      (∃ b1 n1 e1, (PV.rw 3 0 (o.length + (plP a').length + (plP b').length) 59 13) = .rw b1 0 n1 e1 13 ∧ b1 < ([[], [], [], [.row ((r.take (o.length * 13) ++ (plP a').flatten).take ((o.length + (plP a').length) * 13) ++ (plP b').flatten)]] : Heap).length ∧ ([[], [], [], [.row ((r.take (o.length * 13) ++ (plP a').flatten).take ((o.length + (plP a').length) * 13) ++ (plP b').flatten)]] : Heap).getD b1 [] = [.row (plP (mg false a b)).flatten] ∧ n1 = (mg false a b).length)) := fun he => by
    have hmg : mg false a' b' = a' ++ b' := by
      rcases he with rfl | rfl
      · rw [nil_mg]; rfl
      · rw [mg_nil, List.append_nil]
    rw [hmg] at hL
    have hrl := take_len hr
    rw [plP_len, plP_len, hr]
    have e2 : (plP o).flatten ++ (plP a').flatten = (plP (o ++ a')).flatten := by rw [plP_app, List.flatten_append]
    rw [e2]
    have e3 : ((plP (o ++ a')).flatten).take ((o.length + a'.length) * 13) = (plP (o ++ a')).flatten := by
      rw [show (o.length + a'.length) * 13 = (plP (o ++ a')).flatten.length by rw [flatP_len, List.length_append], List.take_length]
    rw [e3]
    have e4 : (plP (o ++ a')).flatten ++ (plP b').flatten = (plP (mg false a b)).flatten := by rw [← hL, plP_app o (a' ++ b'), plP_app a' b', plP_app o a']; simp [List.flatten_append]
    rw [e4]
    refine ⟨by omega, hrl, flatP_len _, flatP_one _, ⟨by omega, by rw [flatP_len, List.length_append]; exact Nat.le_refl _, flatP_len _, flatP_one _, ?_⟩⟩
    exact ⟨3, _, _, rfl, by show 3 < 4; omega, rfl, by rw [← hL]; simp; omega⟩
  refine br_i (fun hp1 => ?_) (fun hp1 => ?_)
  rotate_left
  · rw [plP_len] at hp1
    exact fin (.inl (List.eq_nil_of_length_eq_zero (by have := of_decide_eq_false hp1; omega)))
  refine br_i (fun hp2 => ?_) (fun hp2 => ?_)
  rotate_left
  · rw [plP_len] at hp2
    exact fin (.inr (List.eq_nil_of_length_eq_zero (by have := of_decide_eq_false hp2; omega)))
  clear fin
  rw [plP_len] at hp1 hp2
  cases a' with
  | nil => simp at hp1
  | cons x a' =>
  cases b' with
  | nil => simp at hp2
  | cons y b' =>
  simp only [List.length_cons] at hlen
  have hrl := take_len hr
  have cutL : ∀ (z : Tm) (q : List Tm) (X : Prop), X → CutN (plP (z :: q)) 13 1 1 X := fun z q X hX => ⟨rfl, by rw [plP_len]; simp, fun w hw => (one_tm _ w hw).1, hX⟩
  have app : ∀ (z : Tm) (X : Prop), X → AppRG True o.length [tmP z].length r.length [tmP z].flatten 13 24 PV.one X := fun z X hX => ⟨fun _ => ⟨by show (o.length + 1) * 24 ≤ _; omega, hrl, rfl, tm_one z⟩, hX⟩
  refine ⟨_, _, _, _, _, _, _, _, _, _, _, _, _, ⟨by decide, rfl, _, _, _, _, _, _, _, _, _, _, _, _, _, ⟨by decide, rfl, _, call_p enO (ord_p x y) rfl ?_⟩⟩⟩
  refine br_i (fun hl => ?_) (fun hl => ?_)
  · have hl : lt x.e y.e = true := ordF_neg.1 (by simpa using hl)
    rw [mg_cons, if_pos hl] at hL
    refine ⟨_, _, _, _, _, _, _, _, _, _, _, _, _, ⟨by decide, rfl, app x _ ⟨1, cutL x a' _ ?_⟩⟩⟩
    exact ⟨⟨rfl, rfl, trivial⟩, rfl, a'.length + (b'.length + 1), by simp <;> omega, a', y :: b', o ++ [x], by simp, rfl, rfl, by simp, take_app hr rfl rfl, by rw [List.append_assoc]; exact hL, by simp <;> omega⟩
  have hl : ¬ lt x.e y.e = true := fun q => by
    have := ordF_neg.2 q
    simp at hl; omega
  refine br_i (fun hg => ?_) (fun hg => ?_)
  · have hg : lt y.e x.e = true := ordF_pos.1 (by simpa using hg)
    rw [mg_cons, if_neg hl, if_pos hg] at hL
    refine ⟨_, _, _, _, _, _, _, _, _, _, _, _, _, ⟨by decide, rfl, app y _ ⟨1, cutL y b' _ ?_⟩⟩⟩
    exact ⟨⟨rfl, rfl, trivial⟩, rfl, a'.length + 1 + b'.length, by simp <;> omega, x :: a', b', o ++ [y], by simp, rfl, rfl, by simp, take_app hr rfl rfl, by rw [List.append_assoc]; exact hL, by simp <;> omega⟩
  have hg : ¬ lt y.e x.e = true := fun q => by
    have := ordF_pos.2 q
    simp at hg; omega
  rw [mg_cons, if_neg hl, if_neg hg] at hL
  refine ⟨_, _, _, _, _, _, _, _, _, _, _, _, _, ⟨by decide, rfl, _, _, _, _, _, _, _, _, _, _, _, _, _, ⟨by decide, rfl, _, _, _, _, _, _, _, _, _, _, _, _, _, call_p enB (greater_p x y) rfl (app (both false x y) _ ⟨1, cutL x a' _ ⟨1, cutL y b' _ ?_⟩⟩)⟩⟩⟩
  exact ⟨⟨rfl, rfl, trivial⟩, rfl, a'.length + b'.length, by simp <;> omega, a', b', o ++ [both false x y], rfl, rfl, rfl, by simp, take_app hr rfl rfl, by rw [List.append_assoc]; exact hL, by simp <;> omega⟩
end Go.Proofs.Ytbhbgaihhilfmaa.Deep

namespace Go.Proofs.Ytbhbgaihhilfmaa.Deep
open Go.RowKit Poly
set_option linter.unusedVariables false
set_option linter.unusedSimpArgs false
theorem add_w (a b : List Tm) (hl : a.length + b.length ≤ 1000) (ha : Up a) (hb : Up b) (pa : Pos a) (pb : Pos b) (ca : ∀ x ∈ a, x.c ≤ 2199023255552) (cb : ∀ x ∈ b, x.c ≤ 2199023255552) : PCalls Try.prog 24 [.sl (plP a), .sl (plP b)] (fun r => r = resP (fitO (norm (a ++ b)))) := by
  refine pcalls_weak (a24 _ _ _ ?_)
  unfold p24
  rw [← mg_norm ha hb pa pb]
  refine ⟨_, call_p (enters_of Try.func42 (by kernel_rfl) rfl) (merges_p a b hl (fun x hx => by have := pa x hx; have := ca x hx; omega) (fun x hx => by have := pb x hx; have := cb x hx; omega)) rfl ?_⟩
  refine ⟨_, _, call_p (enters_of Try.func34 (by kernel_rfl) rfl) (fitting_p _) rfl ?_⟩
  exact ⟨rfl, rfl⟩
theorem add_p (a b : List Tm) (ha : FitP a) (hb : FitP b) : PCalls Try.prog 24 [.sl (plP a), .sl (plP b)] (fun r => r = resP (mergeF W64 true a b)) := by
  rw [add_eq wr_small ha hb]
  have h1 := ha.len
  have h2 := hb.len
  exact add_w a b (by omega) ha.up hb.up ha.pos hb.pos (fun x hx => by have := ha.low x hx; omega) (fun x hx => by have := hb.low x hx; omega)
theorem max_p (a b : List Tm) (ha : FitP a) (hb : FitP b) : PCalls Try.prog 28 [.sl (plP a), .sl (plP b)] (fun r => r = resP (mergeF W64 false a b)) := by
  rw [max_eq wr_small ha hb, ← mg_lay ha.up hb.up ha.pos hb.pos]
  have h1 := ha.len
  have h2 := hb.len
  refine pcalls_weak (a28 _ _ _ ?_)
  unfold p28
  refine ⟨_, call_p (enters_of Try.func42 (by kernel_rfl) rfl) (mergeg_p a b (by omega)) rfl ?_⟩
  refine ⟨_, _, call_p (enters_of Try.func34 (by kernel_rfl) rfl) (fitting_p _) rfl ?_⟩
  exact ⟨rfl, rfl⟩
theorem splice_mid : ∀ (ps A Z : List PV), ps.length ≤ Z.length → splice A.length ps (A ++ Z) = A ++ ps ++ Z.drop ps.length
  | [], A, Z, _ => by simp [splice]
  | p :: ps, A, [], h => by simp at h
  | p :: ps, A, z :: Z, h => by
    rw [splice]
    have e : (A ++ z :: Z).set A.length p = (A ++ [p]) ++ Z := by simp
    have := splice_mid ps (A ++ [p]) Z (by simpa using h)
    rw [List.length_append] at this
    rw [e]
    have e2 : A.length + [p].length = A.length + 1 := rfl
    rw [e2] at this
    rw [this]
    simp
theorem zeroR_succ (n : Nat) : zeroR (n + 1) = tmP ⟨0, zeroE⟩ ++ zeroR n := rfl
theorem rowF_take {t : Tm} {b : List Tm} {j : Nat} (h : j < b.length) : rowF t (b.take (j + 1)) = rowF t (b.take j) ++ [satT t b[j]] := by
  unfold rowF
  rw [List.take_add_one, List.getElem?_eq_getElem h, List.map_append]; rfl
set_option maxHeartbeats 2000000 in
theorem row_p (t : Tm) (b : List Tm) (h1 : 1 ≤ t.c) (h2 : t.c ≤ 1099511627776) (h6 : ∀ k, k < 12 → t.e.at k ≤ 6) (hb : FitP b) : PCalls Try.prog 45 [.agg (tmP t), .sl (plP b)] (fun r => r = .sl (plP (rowF t b))) := by
  have enT : Enters Try.prog 56 := enters_of Try.func56 (by kernel_rfl) rfl
  have enP : Enters Try.prog 49 := enters_of Try.func49 (by kernel_rfl) rfl
  have hbl := hb.len
  refine seal_p (a45 _ _ _ _ _ _ _ _ _ _ _ _ _ _ _ ?_)
  unfold p45
  rw [plP_len]
  refine ⟨by omega, rfl, by rw [Int.toNat_natCast]; omega, by omega, by omega, ?_⟩
  rw [Int.toNat_natCast]
  refine ⟨fun c v => ∃ j : Nat, j ≤ b.length ∧ c = b.length - j ∧ v.1 = (j : Int) ∧ v.2.1 = (plP (rowF t (b.take j))).flatten ++ zeroR (b.length - j), ⟨_, 0, Nat.zero_le _, rfl, rfl, rfl⟩, ?_⟩
  rintro c ⟨i, r, u⟩ ⟨j, hj, rfl, hi, hr⟩
  dsimp only at hi hr ⊢
  subst hi hr
  refine br_i (fun hlt => ?_) (fun hge => ?_)
  rotate_left
  · obtain rfl : j = b.length := by have := of_decide_eq_false hge; omega
    rw [List.take_length, Nat.sub_self]
    have e0 : zeroR 0 = [] := rfl
    rw [e0, List.append_nil]
    exact ⟨1, _, _, rfl, by show 1 < 2; omega, rfl, by simp [rowF]⟩
  have hlt : j < b.length := by have := of_decide_eq_true hlt; omega
  have hx := plP_at (List.getElem?_eq_getElem hlt)
  have hok := hb.ok b[j] (List.getElem_mem hlt)
  have htk := rowF_take (t := t) hlt
  generalize b[j] = x at *
  obtain ⟨x1, x2, x6⟩ := hok
  refine ⟨_, _, _, _, _, _, _, _, _, _, _, _, _, ⟨by omega, by rw [Int.toNat_natCast]; exact hx, ⟨Nat.le_refl 13, _, _, _, _, _, _, _, _, _, _, _, _, ⟨rfl, _, _, _, _, _, _, _, _, _, _, _, _, ⟨rfl, ?_⟩⟩⟩⟩⟩
  refine ⟨_, _, _, _, _, _, _, _, _, _, _, _, call_p enT (together_p t.e x.e (fun k hk => by have := h6 k hk; have := x6 k hk; omega)) rfl ?_⟩
  refine ⟨_, ⟨rfl, _, ⟨rfl, ?_⟩⟩⟩
  refine ⟨_, call_p enP (product_p t.c x.c ⟨by omega, by omega⟩ (by omega)) rfl ?_⟩
  have hA : (plP (rowF t (b.take j))).flatten.length = j * 13 := by
    rw [flatP_len]; unfold rowF; rw [List.length_map, List.length_take]; congr 1; omega
  have hZ : zeroR (b.length - j) = tmP ⟨0, zeroE⟩ ++ zeroR (b.length - (j + 1)) := by
    rw [show b.length - j = b.length - (j + 1) + 1 by omega, zeroR_succ]
  refine ⟨by omega, by omega, ⟨?_, ?_⟩⟩
  · rw [List.length_append, hA, hZ, List.length_append, tm_len]; omega
  refine ⟨⟨rfl, rfl, rfl, rfl, trivial⟩, rfl, b.length - (j + 1), by omega, j + 1, by omega, rfl, ?_, ?_⟩
  · rw [wrap_id (by omega) (by omega)]; simp
  · rw [Int.toNat_natCast, Nat.zero_add, htk, plP_app, List.flatten_append, hZ]
    have := splice_mid (tmP (satT t x)) (plP (rowF t (b.take j))).flatten (tmP ⟨0, zeroE⟩ ++ zeroR (b.length - (j + 1))) (by rw [List.length_append, tm_len, tm_len]; omega)
    rw [hA] at this
    have e : (tmP ⟨0, zeroE⟩ ++ zeroR (b.length - (j + 1))).drop (tmP (satT t x)).length = zeroR (b.length - (j + 1)) := by
      rw [tm_len, ← tm_len ⟨0, zeroE⟩, List.drop_left]
    rw [e] at this
    refine Eq.trans this ?_
    rw [List.append_assoc, List.append_assoc]; rfl
theorem fitO_or (p : List Tm) : (fitO p = (p, 0) ∧ FitP p) ∨ fitO p = ([], 17) := by
  unfold fitO
  by_cases h : fitF p = true
  · rw [if_pos h]; exact .inl ⟨rfl, (fitF_iff _).1 h⟩
  · rw [if_neg h]; exact .inr rfl
set_option maxHeartbeats 1000000 in
theorem mul_p (a b : List Tm) (ha : FitP a) (hb : FitP b) : PCalls Try.prog 26 [.sl (plP a), .sl (plP b)] (fun r => r = resP (mulF W64 a b)) := by
  have enR : Enters Try.prog 45 := enters_of Try.func45 (by kernel_rfl) rfl
  have enA : Enters Try.prog 24 := enters_of Try.func24 (by kernel_rfl) rfl
  have hal := ha.len
  have hbl := hb.len
  rw [← mulW_mulF wr_small ha hb]
  obtain ⟨M, hM⟩ : ∃ M, mulW b [] a = M := ⟨_, rfl⟩
  rw [hM]
  refine pcalls_weak (a26 _ _ _ ?_)
  unfold p26
  rw [plP_len]
  refine ⟨fun c v => ∃ (j : Nat) (o : List Tm), j ≤ a.length ∧ c = a.length - j ∧ v.2.1 = (j : Int) ∧ v.1 = plP o ∧ FitP o ∧ mulW b o (a.drop j) = M, ⟨_, 0, [], Nat.zero_le _, rfl, rfl, rfl, FitP.nil, hM⟩, ?_⟩
  rintro c ⟨l, i, u⟩ ⟨j, o, hj, rfl, hi, ho, hof, hL⟩
  dsimp only at hi ho hL ⊢
  subst hi ho
  refine br_i (fun hlt => ?_) (fun hge => ?_)
  rotate_left
  · have hge : ¬ j < a.length := by have := of_decide_eq_false hge; omega
    rw [List.drop_of_length_le (by omega), mulW] at hL
    exact ⟨by rw [← hL]; rfl, rfl⟩
  have hlt : j < a.length := by have := of_decide_eq_true hlt; omega
  have hx := plP_at (List.getElem?_eq_getElem hlt)
  have hok := ha.ok a[j] (List.getElem_mem hlt)
  rw [List.drop_eq_getElem_cons hlt, mulW] at hL
  generalize a[j] = x at *
  obtain ⟨x1, x2, x6⟩ := hok
  refine ⟨_, _, _, _, _, _, _, _, _, _, _, _, _, ⟨by omega, by rw [Int.toNat_natCast]; exact hx, ⟨Nat.le_refl 13, _, _, _, _, _, _, _, _, _, _, _, _, _, ⟨rfl, ?_⟩⟩⟩⟩
  refine ⟨_, call_p enR (row_p x b x1 x2 x6 hb) rfl ?_⟩
  have hol := hof.len
  have hadd := add_w o (rowF x b) (by unfold rowF; rw [List.length_map]; omega) hof.up (rowF_up hb.up) hof.pos (rowF_pos x1 hb.pos) (fun z hz => by have := hof.low z hz; omega) (fun z hz => by
    obtain ⟨y, hy, rfl⟩ := List.mem_map.1 hz
    show min (x.c * y.c) 1099511627777 ≤ _
    omega)
  refine ⟨_, _, call_p enA hadd rfl ?_⟩
  have hcs := fitO_or (norm (o ++ rowF x b))
  generalize fitO (norm (o ++ rowF x b)) = r at *
  refine br_i (fun h => ?_) (fun h => ?_)
  · have h : r.2 ≠ 0 := by simpa using h
    rw [if_neg h] at hL
    rcases hcs with ⟨e, _⟩ | e
    · rw [e] at h; exact absurd rfl h
    · rw [e, ← hL]; exact ⟨rfl, rfl⟩
  · have h : r.2 = 0 := by simpa using h
    rw [if_pos h] at hL
    rcases hcs with ⟨e, hf⟩ | e
    · refine ⟨⟨rfl, rfl, rfl, trivial⟩, rfl, a.length - (j + 1), by omega, j + 1, r.1, by omega, rfl, ?_, rfl, by rw [e]; exact hf, hL⟩
      rw [wrap_id (by omega) (by omega)]; simp
    · rw [e] at h; simp at h
end Go.Proofs.Ytbhbgaihhilfmaa.Deep

namespace Go.Proofs.Ytbhbgaihhilfmaa.Deep
open Go.RowKit Poly
set_option linter.unusedVariables false
set_option linter.unusedSimpArgs false
theorem wrapj {j : Nat} (h : j ≤ 1000000) : IntKind.i64.wrap ((j : Int) + 1) = ((j + 1 : Nat) : Int) := by rw [wrap_id (by omega) (by omega)]; simp
set_option maxHeartbeats 1000000 in
theorem termAt_p (t : Tm) (l : List Int) (h1 : 1 ≤ t.c) (h2 : t.c ≤ 1099511627776) (h6 : ∀ k, k < 12 → t.e.at k ≤ 6) : PCalls Try.prog 36 [.agg (tmP t), .sl (inP l)] (fun r => r = .con (.int .i64 (termN t l))) := by
  have enN : Enters Try.prog 50 := enters_of Try.func50 (by kernel_rfl) rfl
  have enP : Enters Try.prog 49 := enters_of Try.func49 (by kernel_rfl) rfl
  obtain ⟨M, hM⟩ : ∃ M, termN t l = M := ⟨_, rfl⟩
  rw [hM]
  refine pcalls_weak (a36 _ _ _ _ _ _ _ _ _ _ _ _ _ _ _ ?_)
  unfold p36
  refine ⟨_, ⟨rfl, _, _, _, _, _, _, _, _, _, _, _, _, ⟨rfl, ?_⟩⟩⟩
  refine ⟨fun c v => ∃ (k : Nat), k ≤ 12 ∧ c = 12 - k ∧ v.2.1 = (k : Int) ∧ 0 ≤ v.1 ∧ v.1 ≤ 1099511627777 ∧ sats v.1 (facsN t.e l k) = M, ⟨_, 0, by omega, rfl, rfl, by show 0 ≤ t.c; omega, by show t.c ≤ _; omega, hM⟩, ?_⟩
  rintro c ⟨n, i, u⟩ ⟨k, hk, rfl, hi, n0, n1, hL⟩
  dsimp only at hi n0 n1 hL ⊢
  subst hi
  refine br_i (fun hlt => ?_) (fun hge => ?_)
  rotate_left
  · obtain rfl : k = 12 := by have := of_decide_eq_false hge; omega
    have hL : n = M := hL
    exact ⟨by rw [← hL]; rfl, rfl⟩
  have hlt : k < 12 := by have := of_decide_eq_true hlt; omega
  have hk6 := h6 k hlt
  have re := ex_row (e := t.e) (i := (k : Int)) (by omega) (by omega)
  rw [facsN_at hlt] at hL
  refine ⟨by omega, by omega, _, ⟨re, ?_⟩⟩
  rw [Int.toNat_natCast]
  refine ⟨fun c v => ∃ (q : Nat), q ≤ t.e.at k ∧ c = t.e.at k - q ∧ v.2.1 = (q : Int) ∧ 0 ≤ v.1 ∧ v.1 ≤ 1099511627777 ∧ sats v.1 (List.replicate (t.e.at k - q) (nat0 (l.getD k 0)) ++ facsN t.e l (k + 1)) = M, ⟨_, 0, by omega, rfl, rfl, n0, n1, hL⟩, ?_⟩
  clear hL n0 n1
  rintro c ⟨n, i, u⟩ ⟨q, hq, rfl, hi, n0, n1, hL⟩
  dsimp only at hi n0 n1 hL ⊢
  subst hi
  refine br_i (fun hlt2 => ?_) (fun hge => ?_)
  rotate_left
  · obtain rfl : q = t.e.at k := by have := of_decide_eq_false hge; omega
    rw [Nat.sub_self, List.replicate_zero, List.nil_append] at hL
    exact ⟨⟨rfl, rfl, trivial⟩, rfl, 12 - (k + 1), by omega, k + 1, by omega, rfl, wrapj (by omega), n0, n1, hL⟩
  have hlt2 : q < t.e.at k := by have := of_decide_eq_true hlt2; omega
  obtain ⟨d, hd⟩ : ∃ d, t.e.at k - q = d + 1 := ⟨t.e.at k - q - 1, by omega⟩
  rw [hd, List.replicate_succ, List.cons_append] at hL
  have hx0 : 0 ≤ nat0 (l.getD k 0) := by unfold nat0; omega
  refine ⟨_, call_p enN (number_p k l) rfl ⟨_, call_p enP (product_p n (nat0 (l.getD k 0)) ⟨n0, n1⟩ hx0) rfl ?_⟩⟩
  have hs0 := Int.mul_nonneg n0 hx0
  refine ⟨⟨rfl, rfl, rfl, rfl, rfl, trivial⟩, rfl, t.e.at k - (q + 1), by omega, q + 1, by omega, rfl, ?_, ?_, ?_, ?_⟩
  · rw [wrap8_id (by omega) (by omega)]; simp
  · show 0 ≤ satI n (nat0 (l.getD k 0))
    unfold satI; omega
  · show satI n (nat0 (l.getD k 0)) ≤ _
    unfold satI; omega
  · rw [show t.e.at k - (q + 1) = d by omega]; exact hL
theorem at_p (p : List Tm) (l : List Int) (hp : FitP p) : PCalls Try.prog 15 [.sl (plP p), .sl (inP l)] (fun r => r = numP (atF p l)) := by
  have hpl := hp.len
  rw [atF_sum hp]
  refine pcalls_weak (a15 _ _ _ ?_)
  unfold p15
  refine ⟨_, call_p (enters_of Try.func19 (by kernel_rfl) rfl) (fit_p p) rfl ?_⟩
  rw [(fitF_iff p).2 hp]
  refine br_i (fun h => by cases h) (fun _ => ?_)
  rw [plP_len]
  refine ⟨fun c v => ∃ (j : Nat), j ≤ p.length ∧ c = p.length - j ∧ v.2.1 = (j : Int) ∧ 0 ≤ v.1 ∧ v.1 ≤ (j : Int) * 1099511627777 ∧ v.1 + sumN l (p.drop j) = sumN l p, ⟨_, 0, Nat.zero_le _, rfl, rfl, Int.le_refl 0, Int.le_refl 0, by simp⟩, ?_⟩
  rintro c ⟨s, i, u⟩ ⟨j, hj, rfl, hi, s0, s1, hL⟩
  dsimp only at hi s0 s1 hL ⊢
  subst hi
  refine br_i (fun hlt => ?_) (fun hge => ?_)
  rotate_left
  · have hge : ¬ j < p.length := by have := of_decide_eq_false hge; omega
    rw [List.drop_of_length_le (by omega), sumN, Int.add_zero] at hL
    rw [← hL]
    refine br_i (fun h => ?_) (fun h => ?_)
    · have h : ¬ s ≤ 1099511627776 := by have := of_decide_eq_true h; omega
      rw [if_neg h]; exact ⟨rfl, rfl⟩
    · have h : s ≤ 1099511627776 := by have := of_decide_eq_false h; omega
      rw [if_pos h]; exact ⟨rfl, rfl⟩
  have hlt : j < p.length := by have := of_decide_eq_true hlt; omega
  have hx := plP_at (List.getElem?_eq_getElem hlt)
  have hok := hp.ok p[j] (List.getElem_mem hlt)
  rw [List.drop_eq_getElem_cons hlt, sumN] at hL
  generalize p[j] = x at *
  obtain ⟨x1, x2, x6⟩ := hok
  have hin := termN_in (l := l) x1 x2
  refine ⟨_, _, _, _, _, _, _, _, _, _, _, _, _, ⟨by omega, by rw [Int.toNat_natCast]; exact hx, ⟨Nat.le_refl 13, _, _, _, _, _, _, _, _, _, _, _, _, _, ⟨rfl, ?_⟩⟩⟩⟩
  refine ⟨_, call_p (enters_of Try.func36 (by kernel_rfl) rfl) (termAt_p x l x1 x2 x6) rfl ?_⟩
  rw [wrap_id (n := s + termN x l) (by omega) (by omega)]
  refine ⟨⟨rfl, rfl, rfl, trivial⟩, rfl, p.length - (j + 1), by omega, j + 1, by omega, rfl, wrapj (by omega), ?_, ?_, ?_⟩
  · show 0 ≤ s + termN x l
    omega
  · show s + termN x l ≤ _
    rw [Int.natCast_add, Int.add_mul]; simp; omega
  · show s + termN x l + sumN l (p.drop (j + 1)) = sumN l p
    omega
theorem stands_p (k : Nat) (l : List (List Tm)) (hk : k < 12) : PCalls Try.prog 57 [.con (.int .i64 (k : Int)), .sl (plsP l)] (fun r => r = .sl (plP (xOf l k))) := by
  refine pcalls_weak (a57 _ _ _ ?_)
  unfold p57 xOf
  rw [plsP_len]
  refine br_i (fun h => ?_) (fun h => ?_)
  · have h : k < l.length := by have := of_decide_eq_true h; omega
    refine ⟨_, ⟨by omega, by rw [Int.toNat_natCast]; exact plsP_at (List.getElem?_eq_getElem h), ?_⟩⟩
    rw [List.getD_eq_getElem?_getD, List.getElem?_eq_getElem h]
    exact ⟨rfl, rfl⟩
  · have h : ¬ k < l.length := by have := of_decide_eq_false h; omega
    have hvar := var_p (k : Int)
    have hv : varF (k : Int) = ([⟨1, oneE k⟩], 0) := by unfold varF; rw [if_neg (by omega), Int.toNat_natCast]
    rw [hv] at hvar
    refine ⟨_, _, call_p (enters_of Try.func13 (by kernel_rfl) rfl) hvar rfl ?_⟩
    rw [List.getD_eq_getElem?_getD, List.getElem?_eq_none (by omega)]
    exact ⟨rfl, rfl⟩
set_option maxHeartbeats 1000000 in
theorem putTerm_p (t : Tm) (l : List (List Tm)) (h1 : 1 ≤ t.c) (h2 : t.c ≤ 1099511627776) (h6 : ∀ k, k < 12 → t.e.at k ≤ 6) (hl : ∀ x ∈ l, FitP x) : PCalls Try.prog 48 [.agg (tmP t), .sl (plsP l)] (fun r => r = resP (termR W64 l t)) := by
  have enS : Enters Try.prog 57 := enters_of Try.func57 (by kernel_rfl) rfl
  have enM : Enters Try.prog 26 := enters_of Try.func26 (by kernel_rfl) rfl
  obtain ⟨M, hM⟩ : ∃ M, termR W64 l t = M := ⟨_, rfl⟩
  rw [hM]
  refine pcalls_weak (a48 _ _ _ _ _ _ _ _ _ _ _ _ _ _ _ ?_)
  unfold p48
  have hnum := num_p t.c
  have hn : numF t.c = ([⟨t.c, zeroE⟩], 0) := by unfold numF; rw [if_neg (by omega), if_neg (by omega)]
  rw [hn] at hnum
  refine ⟨_, ⟨rfl, _, _, call_p (enters_of Try.func11 (by kernel_rfl) rfl) hnum rfl ?_⟩⟩
  refine ⟨_, _, _, _, _, _, _, _, _, _, _, _, ⟨rfl, ?_⟩⟩
  refine ⟨fun c v => ∃ (k : Nat) (r : Res), k ≤ 12 ∧ c = 12 - k ∧ v.2.2.1 = (k : Int) ∧ v.1 = plP r.1 ∧ v.2.1 = r.2 ∧ ResOk r ∧ termFrom W64 l t.e r k = M, ⟨_, 0, ([⟨t.c, zeroE⟩], 0), by omega, rfl, rfl, rfl, rfl, .inl ⟨rfl, num_ok h1 h2⟩, hM⟩, ?_⟩
  rintro c ⟨ls, er, i, u⟩ ⟨k, r, hk, rfl, hi, hls, her, hok, hL⟩
  dsimp only at hi hls her hL ⊢
  subst hi hls her
  refine br_i (fun hlt => ?_) (fun hge => ?_)
  rotate_left
  · obtain rfl : k = 12 := by have := of_decide_eq_false hge; omega
    have hL : r = M := hL
    exact ⟨by rw [← hL]; rfl, rfl⟩
  have hlt : k < 12 := by have := of_decide_eq_true hlt; omega
  have hk6 := h6 k hlt
  have re := ex_row (e := t.e) (i := (k : Int)) (by omega) (by omega)
  rw [termFrom_at hlt] at hL
  refine ⟨by omega, by omega, _, ⟨re, ?_⟩⟩
  rw [Int.toNat_natCast]
  refine ⟨fun c v => ∃ (q : Nat) (r2 : Res), q ≤ t.e.at k ∧ c = t.e.at k - q ∧ v.2.2.1 = (q : Int) ∧ v.1 = plP r2.1 ∧ v.2.1 = r2.2 ∧ ResOk r2 ∧ termFrom W64 l t.e (powR W64 r2 (xOf l k) (t.e.at k - q)) (k + 1) = M, ⟨_, 0, r, by omega, rfl, rfl, rfl, rfl, hok, hL⟩, ?_⟩
  clear hL hok
  rintro c ⟨ls, er, i, u⟩ ⟨q, r, hq, rfl, hi, hls, her, hok, hL⟩
  dsimp only at hi hls her hL ⊢
  subst hi hls her
  have w8 : q < t.e.at k → IntKind.u8.wrap ((q : Int) + 1) = ((q + 1 : Nat) : Int) := fun h => by rw [wrap8_id (by omega) (by omega)]; simp
  refine br_i (fun hlt2 => ?_) (fun hge => ?_)
  rotate_left
  · obtain rfl : q = t.e.at k := by have := of_decide_eq_false hge; omega
    rw [Nat.sub_self, powR] at hL
    exact ⟨⟨rfl, rfl, trivial⟩, rfl, 12 - (k + 1), by omega, k + 1, r, by omega, rfl, wrapj (by omega), rfl, rfl, hok, hL⟩
  have hlt2 : q < t.e.at k := by have := of_decide_eq_true hlt2; omega
  obtain ⟨d, hd⟩ : ∃ d, t.e.at k - q = d + 1 := ⟨t.e.at k - q - 1, by omega⟩
  rw [hd] at hL
  refine br_i (fun h0 => ?_) (fun h0 => ?_)
  · have h0 : r.2 = 0 := by simpa using h0
    rw [powR, if_pos h0] at hL
    refine ⟨_, call_p enS (stands_p k l hlt) rfl ⟨_, _, call_p enM (mul_p r.1 (xOf l k) hok.fit (xOf_fit hl k)) rfl ?_⟩⟩
    exact ⟨⟨rfl, rfl, rfl, rfl, rfl, trivial⟩, rfl, t.e.at k - (q + 1), by omega, q + 1, mulF W64 r.1 (xOf l k), by omega, rfl, w8 hlt2, rfl, rfl, mulF_ok, by rw [show t.e.at k - (q + 1) = d by omega]; exact hL⟩
  · have h0 : r.2 ≠ 0 := by simpa using h0
    rw [powR_err h0] at hL
    exact ⟨⟨rfl, rfl, rfl, rfl, rfl, trivial⟩, rfl, t.e.at k - (q + 1), by omega, q + 1, r, by omega, rfl, w8 hlt2, rfl, rfl, hok, by rw [powR_err h0]; exact hL⟩
theorem termFrom_ok {l : List (List Tm)} {e : Ex} : ∀ (ks : List Nat) {r : Res}, ResOk r → ResOk (ks.foldl (fun r k => powR W64 r (xOf l k) (e.at k)) r)
  | [], r, h => h
  | k :: ks, r, h => termFrom_ok ks (powR_ok h)
theorem termR_ok {t : Tm} {l : List (List Tm)} (h1 : 1 ≤ t.c) (h2 : t.c ≤ 1099511627776) : ResOk (termR W64 l t) := termFrom_ok _ (.inl ⟨rfl, num_ok h1 h2⟩)
set_option maxHeartbeats 1000000 in
theorem put_p (p : List Tm) (l : List (List Tm)) (hp : FitP p) (hl : ∀ x ∈ l, FitP x) : PCalls Try.prog 30 [.sl (plP p), .sl (plsP l)] (fun r => r = resP (putF W64 p l)) := by
  have enT : Enters Try.prog 48 := enters_of Try.func48 (by kernel_rfl) rfl
  have enA : Enters Try.prog 24 := enters_of Try.func24 (by kernel_rfl) rfl
  have hpl := hp.len
  obtain ⟨M, hM⟩ : ∃ M, putF W64 p l = M := ⟨_, rfl⟩
  rw [hM]
  refine pcalls_weak (a30 _ _ _ ?_)
  unfold p30
  refine ⟨_, call_p (enters_of Try.func19 (by kernel_rfl) rfl) (fit_p p) rfl ?_⟩
  rw [(fitF_iff p).2 hp]
  refine br_i (fun h => by cases h) (fun _ => ?_)
  rw [plP_len]
  refine ⟨fun c v => ∃ (j : Nat) (o : List Tm), j ≤ p.length ∧ c = p.length - j ∧ v.2.1 = (j : Int) ∧ v.1 = plP o ∧ FitP o ∧ putL W64 l o (p.drop j) = M, ⟨_, 0, [], Nat.zero_le _, rfl, rfl, rfl, FitP.nil, hM⟩, ?_⟩
  rintro c ⟨ls, i, u⟩ ⟨j, o, hj, rfl, hi, ho, hof, hL⟩
  dsimp only at hi ho hL ⊢
  subst hi ho
  refine br_i (fun hlt => ?_) (fun hge => ?_)
  rotate_left
  · have hge : ¬ j < p.length := by have := of_decide_eq_false hge; omega
    rw [List.drop_of_length_le (by omega), putL] at hL
    exact ⟨by rw [← hL]; rfl, rfl⟩
  have hlt : j < p.length := by have := of_decide_eq_true hlt; omega
  have hx := plP_at (List.getElem?_eq_getElem hlt)
  have hok := hp.ok p[j] (List.getElem_mem hlt)
  rw [List.drop_eq_getElem_cons hlt, putL] at hL
  generalize p[j] = x at *
  obtain ⟨x1, x2, x6⟩ := hok
  have hR := termR_ok (l := l) x1 x2
  refine ⟨_, _, _, _, _, _, _, _, _, _, _, _, _, ⟨by omega, by rw [Int.toNat_natCast]; exact hx, ⟨Nat.le_refl 13, _, _, _, _, _, _, _, _, _, _, _, _, _, ⟨rfl, ?_⟩⟩⟩⟩
  refine ⟨_, _, call_p enT (putTerm_p x l x1 x2 x6 hl) rfl ?_⟩
  generalize termR W64 l x = r at *
  refine br_i (fun h => ?_) (fun h => ?_)
  · have h : r.2 = 0 := by simpa using h
    rw [if_pos h] at hL
    refine ⟨_, _, call_p enA (add_p o r.1 hof hR.fit) rfl ?_⟩
    have hm : ResOk (mergeF W64 true o r.1) := mergeF_ok
    generalize mergeF W64 true o r.1 = m at *
    refine br_i (fun h2 => ?_) (fun h2 => ?_)
    · have h2 : m.2 ≠ 0 := by simpa using h2
      rw [if_pos h2] at hL
      exact ⟨by rw [← hL]; rfl, rfl⟩
    · have h2 : m.2 = 0 := by simpa using h2
      rw [if_neg (by simp [h2])] at hL
      exact ⟨⟨rfl, rfl, rfl, trivial⟩, rfl, p.length - (j + 1), by omega, j + 1, m.1, by omega, rfl, wrapj (by omega), rfl, hm.fit, hL⟩
  · have h : r.2 ≠ 0 := by simpa using h
    rw [if_neg h] at hL
    refine br_i (fun h2 => ?_) (fun h2 => absurd (by simpa using h2) h)
    exact ⟨by rw [← hL]; rfl, rfl⟩
theorem has1_p (t : Tm) (k : Int) (h0 : 0 ≤ k) (h1 : k < 12) : PCalls Try.prog 41 [.agg (tmP t), .ept [.con (.int .i64 k)] 0] (fun r => r = .con (.bool (decide (0 < t.e.at k.toNat)))) := by
  refine pcalls_weak (a41h _ _ _ _ _ _ _ _ _ _ _ _ _ _ _ ?_)
  unfold p41h
  refine ⟨h0, by omega, _, ⟨tm_row h0 h1, ?_⟩⟩
  have e : decide (((t.e.at k.toNat : Nat) : Int) > 0) = decide (0 < t.e.at k.toNat) := by
    rw [Bool.eq_iff_iff, decide_eq_true_iff, decide_eq_true_iff]; omega
  rw [← e]
  exact ⟨rfl, rfl⟩
def fstI (k : Nat) : List Tm → Int → Int
  | [], _ => -1
  | t :: r, j => if 0 < t.e.at k then j else fstI k r (j + 1)
theorem fstI_any (k : Nat) : ∀ (p : List Tm) (j : Int), 0 ≤ j → (decide (fstI k p j ≥ 0) = p.any fun t => decide (0 < t.e.at k))
  | [], j, h => rfl
  | t :: r, j, h => by
    rw [fstI, List.any_cons]
    by_cases hh : 0 < t.e.at k
    · rw [if_pos hh, decide_eq_true hh, Bool.true_or, decide_eq_true h]
    · rw [if_neg hh, decide_eq_false hh, Bool.false_or, fstI_any k r (j + 1) (by omega)]
theorem index_p (p : List Tm) (k : Int) (h0 : 0 ≤ k) (h1 : k < 12) (hl : p.length ≤ 100000) : PCalls Try.prog 53 [.sl (plP p), .fn 41 [.ept [.con (.int .i64 k)] 0]] (fun r => r = .con (.int .i64 (fstI k.toNat p 0))) := by
  obtain ⟨M, hM⟩ : ∃ M, fstI k.toNat p 0 = M := ⟨_, rfl⟩
  rw [hM]
  refine pcalls_weak (a53h _ _ _ ?_)
  unfold p53h
  rw [plP_len]
  refine ⟨fun c v => ∃ (j : Nat), j ≤ p.length ∧ c = p.length - j ∧ v.1 = (j : Int) ∧ fstI k.toNat (p.drop j) j = M, ⟨_, 0, Nat.zero_le _, rfl, rfl, hM⟩, ?_⟩
  rintro c ⟨i, u⟩ ⟨j, hj, rfl, hi, hL⟩
  dsimp only at hi hL ⊢
  subst hi
  refine br_i (fun hlt => ?_) (fun hge => ?_)
  rotate_left
  · have hge : ¬ j < p.length := by have := of_decide_eq_false hge; omega
    rw [List.drop_of_length_le (by omega), fstI] at hL
    exact ⟨by rw [← hL]; rfl, rfl⟩
  have hlt : j < p.length := by have := of_decide_eq_true hlt; omega
  have hx := plP_at (List.getElem?_eq_getElem hlt)
  rw [List.drop_eq_getElem_cons hlt, fstI] at hL
  generalize p[j] = x at *
  refine ⟨_, _, _, _, _, _, _, _, _, _, _, _, _, ⟨by omega, by rw [Int.toNat_natCast]; exact hx, _, call_p (enters_of Try.func41 (by kernel_rfl) rfl) (has1_p x k h0 h1) rfl ?_⟩⟩
  refine br_i (fun h => ?_) (fun h => ?_)
  · rw [if_pos (of_decide_eq_true h)] at hL
    exact ⟨by rw [← hL]; rfl, rfl⟩
  · rw [if_neg (of_decide_eq_false h)] at hL
    exact ⟨⟨rfl, rfl, rfl, trivial⟩, rfl, p.length - (j + 1), by omega, j + 1, by omega, rfl, wrapj (by omega), hL⟩
theorem has_p (p : List Tm) (k : Int) (hl : p.length ≤ 100000) : PCalls Try.prog 21 [.sl (plP p), .con (.int .i64 k)] (fun r => r = .con (.bool (hasF p k))) := by
  refine pcalls_weak (a21 _ _ _ ?_)
  unfold p21
  refine ⟨_, call_p (enters_of Try.func35 (by kernel_rfl) rfl) (unk_p k) rfl ?_⟩
  refine br_i (fun h => ?_) (fun h => ?_)
  · have h : 0 ≤ k ∧ k < 12 := by simpa using h
    have hh : hasF p k = decide (fstI k.toNat p 0 ≥ 0) := by
      rw [fstI_any _ _ _ (Int.le_refl 0)]
      unfold hasF
      congr 1
      funext t
      unfold hasT
      rw [decide_eq_true h.1, decide_eq_true h.2]; rfl
    have hc : PCalls Try.prog 40 [.sl (plP p), .fn 41 [.ept [.con (.int .i64 k)] 0]] (fun r => r = .con (.bool (hasF p k))) := by
      refine pcalls_weak (a40h _ _ _ ?_)
      unfold p40h
      refine ⟨_, call_p (enters_of Try.func53 (by kernel_rfl) rfl) (index_p p k h.1 h.2 hl) rfl ?_⟩
      rw [hh]
      exact ⟨rfl, rfl⟩
    refine ⟨_, call_p (enters_of Try.func40 (by kernel_rfl) rfl) hc rfl ?_⟩
    exact ⟨rfl, rfl⟩
  · have h : ¬ (0 ≤ k ∧ k < 12) := by simp at h; omega
    have : hasF p k = false := by
      unfold hasF
      rw [List.any_eq_false]
      intro t _
      unfold hasT
      simp
      intro a b
      omega
    rw [this]
    exact ⟨rfl, rfl⟩
set_option maxHeartbeats 1000000 in
theorem split_p (p : List Tm) (k : Int) (hp : p.length ≤ 1000) : PCalls Try.prog 17 [.sl (plP p), .con (.int .i64 k)] (fun r => r = splitP (splitL k p [] 0)) := by
  rw [split_rest, List.nil_append]
  refine pcalls_weak (a17 _ _ _ ?_)
  unfold p17
  refine ⟨_, _, call_p (enters_of Try.func13 (by kernel_rfl) rfl) (var_p k) rfl ?_⟩
  rw [plP_len]
  refine ⟨fun c v => ∃ (j : Nat) (o : List Tm), j ≤ p.length ∧ c = p.length - j ∧ v.2.2.1 = (j : Int) ∧ v.2.1 = plP o ∧ o.length ≤ j ∧ o ++ restL k (p.drop j) = restL k p ∧ lastC k (p.drop j) v.1 = lastC k p 0, ⟨_, 0, [], Nat.zero_le _, rfl, rfl, rfl, Nat.zero_le _, rfl, rfl⟩, ?_⟩
  rintro c ⟨n, ls, i, u⟩ ⟨j, o, hj, rfl, hi, ho, hol, hR, hC⟩
  dsimp only at hi ho hC ⊢
  subst hi ho
  refine br_i (fun hlt => ?_) (fun hge => ?_)
  rotate_left
  · have hge : ¬ j < p.length := by have := of_decide_eq_false hge; omega
    rw [List.drop_of_length_le (by omega)] at hR hC
    have hR : o = restL k p := by rw [← hR]; simp [restL]
    have hC : n = lastC k p 0 := hC
    refine ⟨_, call_p (enters_of Try.func21 (by kernel_rfl) rfl) (has_p o k (by omega)) rfl ?_⟩
    rw [← hR, ← hC]
    refine br_i (fun h => ?_) (fun h => ?_)
    · rw [h]; exact ⟨rfl, rfl⟩
    · rw [h]; exact ⟨rfl, rfl⟩
  have hlt : j < p.length := by have := of_decide_eq_true hlt; omega
  have hx := plP_at (List.getElem?_eq_getElem hlt)
  rw [List.drop_eq_getElem_cons hlt] at hR hC
  generalize p[j] = x at *
  rw [lastC] at hC
  have keep : isVarT k x = false → o ++ [x] ++ restL k (p.drop (j + 1)) = restL k p ∧ lastC k (p.drop (j + 1)) n = lastC k p 0 := fun hv => by
    rw [hv] at hC
    have e : restL k (x :: p.drop (j + 1)) = x :: restL k (p.drop (j + 1)) := by unfold restL; rw [List.filter_cons, hv]; rfl
    rw [e] at hR
    exact ⟨by rw [List.append_assoc]; exact hR, hC⟩
  refine ⟨_, _, _, _, _, _, _, _, _, _, _, _, _, ⟨by omega, by rw [Int.toNat_natCast]; exact hx, ⟨Nat.le_refl 13, ?_⟩⟩⟩
  by_cases hk : k < 0 ∨ k ≥ 12
  · have hv : varF k = ([], 20) := by unfold varF; rw [if_pos hk]
    have hnv : isVarT k x = false := by
      unfold isVarT
      rcases hk with h | h
      · rw [decide_eq_false (show ¬ 0 ≤ k by omega)]; rfl
      · rw [decide_eq_false (show ¬ k < 12 by omega)]; simp
    obtain ⟨k1, k2⟩ := keep hnv
    rw [hv]
    refine br_i (fun h => by cases h) (fun _ => ?_)
    refine ⟨_, _, _, _, _, _, _, _, _, _, _, _, _, ⟨rfl, ⟨by simp [plP_len]; omega, one_tm [x], ?_⟩⟩⟩
    exact ⟨⟨rfl, rfl, rfl, rfl, rfl, trivial⟩, rfl, p.length - (j + 1), by omega, j + 1, o ++ [x], by omega, rfl, wrapj (by omega), by rw [plP_app]; rfl, by simp; omega, k1, k2⟩
  · have hv : varF k = ([⟨1, oneE k.toNat⟩], 0) := by unfold varF; rw [if_neg hk]
    have hvt : isVarT k x = decide (x.e = oneE k.toNat) := by
      unfold isVarT
      rw [decide_eq_true (show 0 ≤ k by omega), decide_eq_true (show k < 12 by omega)]; rfl
    rw [hv]
    refine br_i (fun _ => ?_) (fun h => by cases h)
    refine ⟨_, _, _, _, _, _, _, _, _, _, _, _, ⟨rfl, _, _, _, _, _, _, _, _, _, _, _, _, _, ⟨by decide, rfl, ⟨by kernel_rfl, by kernel_rfl, ?_⟩⟩⟩⟩
    rw [eq12]
    refine br_i (fun he => ?_) (fun he => ?_)
    · have hvt : isVarT k x = true := by rw [hvt]; exact he
      rw [if_pos hvt] at hC
      have e : restL k (x :: p.drop (j + 1)) = restL k (p.drop (j + 1)) := by unfold restL; rw [List.filter_cons, hvt]; rfl
      rw [e] at hR
      refine ⟨_, ⟨rfl, ?_⟩⟩
      exact ⟨⟨rfl, rfl, rfl, rfl, rfl, trivial⟩, rfl, p.length - (j + 1), by omega, j + 1, o, by omega, rfl, wrapj (by omega), rfl, by omega, hR, hC⟩
    · obtain ⟨k1, k2⟩ := keep (by rw [hvt]; exact he)
      refine ⟨_, _, _, _, _, _, _, _, _, _, _, _, _, ⟨rfl, ⟨by simp [plP_len]; omega, one_tm [x], ?_⟩⟩⟩
      exact ⟨⟨rfl, rfl, rfl, rfl, rfl, trivial⟩, rfl, p.length - (j + 1), by omega, j + 1, o ++ [x], by omega, rfl, wrapj (by omega), by rw [plP_app]; rfl, by simp; omega, k1, k2⟩
theorem poly_is : PolyIs where
  num := num_p
  var := var_p
  fit := fun p _ => fit_p p
  at' := fun p l hp _ => at_p p l hp
  has := fun p k hp => has_p p k (by have := hp.len; omega)
  split := fun p k hp => split_p p k (by have := hp.len; omega)
  add := add_p
  mul := mul_p
  max := max_p
  put := fun p l hp hl _ => put_p p l hp hl
end Go.Proofs.Ytbhbgaihhilfmaa.Deep

namespace Go.Proofs.Ytbhbgaihhilfmaa.Deep
open Go.RowKit
set_option linter.unusedVariables false
def p10  (Q : PV → Heap → Prop) : Prop :=
∃ (l1 : LL) (i2 : Int), CallN Try.prog 13 [(.con (.int .i64 0))] [] (.tup [l1, i2])
  (∃ (l3 : LL) (i4 : Int), CallN Try.prog 11 [(.con (.int .i64 2))] [] (.tup [l3, i4])
  (∃ (l5 : LL) (i6 : Int), CallN Try.prog 11 [(.con (.int .i64 3))] [] (.tup [l5, i6])
  (∃ (l7 : LL) (i8 : Int), CallN Try.prog 24 [l1, l3] [] (.tup [l7, i8])
  (∃ (l9 : LL) (i10 : Int), CallN Try.prog 24 [l1, l5] [] (.tup [l9, i10])
  (∃ (l11 : LL) (i12 : Int), CallN Try.prog 26 [l7, l9] [] (.tup [l11, i12])
  (∃ (i13 i14 : Int), CallN Try.prog 15 [l11, (.sl [[(.con (.int .i64 4))]])] [[.tip]] (.tup [i13, i14])
  (br (((i12 : Int) == 0))
  (br ((((List.length l11 : Int) : Int) == 3))
  (∃ (i15 i16 i17 i18 i19 i20 i21 i22 i23 i24 i25 i26 i27 : Int), IdxN l11 0 [(.con (.int .u8 i15)), (.con (.int .u8 i16)), (.con (.int .u8 i17)), (.con (.int .u8 i18)), (.con (.int .u8 i19)), (.con (.int .u8 i20)), (.con (.int .u8 i21)), (.con (.int .u8 i22)), (.con (.int .u8 i23)), (.con (.int .u8 i24)), (.con (.int .u8 i25)), (.con (.int .u8 i26)), i27]
  (br (((i27 : Int) == 6))
  (br (((i14 : Int) == 0))
  (Q (.con (.bool ((i13 : Int) == 42))) [[.tip]])
  (Q (.con (.bool false)) [[.tip]]))
  (Q (.con (.bool false)) [[.tip]])))
  (Q (.con (.bool false)) [[.tip]]))
  (Q (.con (.bool false)) [[.tip]]))))))))
theorem a10  (Q : PV → Heap → Prop) (h : p10  Q) : ACalls Try.prog 10 [] [] Q := by
  have hb : Option.some (bodyOf Try.f10) = Try.f10.body := by kernel_rfl
  exact acalls_eq (S := S) (L := loops32) mixed tok Try.func10 hb.symm (by kernel_rfl) h
end Go.Proofs.Ytbhbgaihhilfmaa.Deep

namespace Go.Proofs.Ytbhbgaihhilfmaa.Deep
open Go.RowKit Poly
set_option linter.unusedVariables false
set_option linter.unusedSimpArgs false
def xK : List Tm := [⟨1, oneE 0⟩]
def aK (n : Int) : List Tm := [⟨n, zeroE⟩, ⟨1, oneE 0⟩]
def pK : List Tm := [⟨6, zeroE⟩, ⟨5, oneE 0⟩, ⟨1, addE (oneE 0) (oneE 0)⟩]
def keyT (t : Tm) : Int × List Nat := (t.c, (List.range 12).map t.e.at)
theorem keyT_inj {a b : Tm} (h : keyT a = keyT b) : a = b := by
  obtain ⟨c, e⟩ := a
  obtain ⟨d, f⟩ := b
  simp only [keyT, Prod.mk.injEq] at h
  obtain ⟨rfl, h⟩ := h
  rw [List.map_inj_left] at h
  rw [Ex.ext (fun i hi => h i (List.mem_range.2 hi))]
theorem keys_inj : ∀ {p q : List Tm}, p.map keyT = q.map keyT → p = q
  | [], [], _ => rfl
  | [], _ :: _, h => by simp at h
  | _ :: _, [], h => by simp at h
  | a :: p, b :: q, h => by
    rw [List.map_cons, List.map_cons, List.cons.injEq] at h
    rw [keyT_inj h.1, keys_inj h.2]
theorem res_eq {r q : Res} (h : r.1.map keyT = q.1.map keyT) (h2 : r.2 = q.2) : r = q := Prod.ext (keys_inj h) h2
theorem k_var : varF 0 = (xK, 0) := res_eq (by decide +kernel) (by decide +kernel)
theorem k_two : numF 2 = ([⟨2, zeroE⟩], 0) := res_eq (by decide +kernel) (by decide +kernel)
theorem k_three : numF 3 = ([⟨3, zeroE⟩], 0) := res_eq (by decide +kernel) (by decide +kernel)
theorem k_a : mergeF W64 true xK [⟨2, zeroE⟩] = (aK 2, 0) := res_eq (by decide +kernel) (by decide +kernel)
theorem k_b : mergeF W64 true xK [⟨3, zeroE⟩] = (aK 3, 0) := res_eq (by decide +kernel) (by decide +kernel)
theorem k_p : mulF W64 (aK 2) (aK 3) = (pK, 0) := res_eq (by decide +kernel) (by decide +kernel)
theorem k_at : atF pK [4] = (42, 0) := by decide +kernel
theorem k_fx : FitP xK := (fitF_iff _).1 (by decide +kernel)
theorem k_f2 : FitP [⟨2, zeroE⟩] := (fitF_iff _).1 (by decide +kernel)
theorem k_f3 : FitP [⟨3, zeroE⟩] := (fitF_iff _).1 (by decide +kernel)
theorem k_fa : FitP (aK 2) := (fitF_iff _).1 (by decide +kernel)
theorem k_fb : FitP (aK 3) := (fitF_iff _).1 (by decide +kernel)
theorem k_fp : FitP pK := (fitF_iff _).1 (by decide +kernel)
theorem awake_is (I : PolyIs) : AwakeIs := by
  have hx := I.var 0
  have h2 := I.num 2
  have h3 := I.num 3
  have ha := I.add xK _ k_fx k_f2
  have hb := I.add xK _ k_fx k_f3
  have hp := I.mul _ _ k_fa k_fb
  have ht := I.at' pK [4] k_fp (by decide)
  rw [k_var] at hx
  rw [k_two] at h2
  rw [k_three] at h3
  rw [k_a] at ha
  rw [k_b] at hb
  rw [k_p] at hp
  rw [k_at] at ht
  have enA : Enters Try.prog 24 := enters_of Try.func24 (by kernel_rfl) rfl
  have enN : Enters Try.prog 11 := enters_of Try.func11 (by kernel_rfl) rfl
  refine pcalls_weak (a10 _ ?_)
  unfold p10
  refine ⟨_, _, call_p (enters_of Try.func13 (by kernel_rfl) rfl) hx rfl ?_⟩
  refine ⟨_, _, call_p enN h2 rfl ?_⟩
  refine ⟨_, _, call_p enN h3 rfl ?_⟩
  refine ⟨_, _, call_p enA ha rfl ?_⟩
  refine ⟨_, _, call_p enA hb rfl ?_⟩
  refine ⟨_, _, call_p (enters_of Try.func26 (by kernel_rfl) rfl) hp rfl ?_⟩
  refine ⟨_, _, call_p (enters_of Try.func15 (by kernel_rfl) rfl) ht rfl ?_⟩
  refine br_i (fun _ => ?_) (fun h => absurd h (by simp))
  refine br_i (fun _ => ?_) (fun h => absurd h (by simp [plP, pK]))
  refine ⟨_, _, _, _, _, _, _, _, _, _, _, _, _, ⟨by decide, by exact (rfl : (plP pK)[0]? = some (tmP ⟨6, zeroE⟩)), ?_⟩⟩
  refine br_i (fun _ => ?_) (fun h => absurd h (by simp))
  refine br_i (fun _ => ?_) (fun h => absurd h (by simp))
  exact ⟨rfl, rfl⟩
end Go.Proofs.Ytbhbgaihhilfmaa.Deep
