/-
  Texts of one proof, in the order in which they lean on one another. No condition.
-/
import Derived.Test.YtcmnjodjebcapaaGreatFaTreeE
import Derived.Test.YtcmnjodjebcapaaGreatRows
import Derived.Laws.BitsLemmas
import Derived.Test.YtcmnjodjebcapaaGreatFaPkc
namespace Go.Proofs.YtcmnjodjebcapaaGreat.Deep
open Go.RowKit
set_option linter.unusedVariables false
def loops33 (id : Nat) : Option (List Nat × List (Nat × Sh)) := none
def p33 (i1 i2 : Int) (Q : PV → Heap → Prop) : Prop :=
Q (.agg [i1, i2]) [[i1, i2]]
theorem a33 (i1 i2 : Int) (Q : PV → Heap → Prop) (h : p33 i1 i2 Q) : ACalls Tryz.prog 33 [i1, i2] [] Q := by
  have hb : Option.some (bodyOf Tryz.f33) = Tryz.f33.body := by kernel_rfl
  exact acalls_eq (S := S) (L := loops33) mixed tok Tryz.func33 hb.symm (by kernel_rfl) h
def loops110 (id : Nat) : Option (List Nat × List (Nat × Sh)) := none
def p110 (i1 : Int) (Q : PV → Heap → Prop) : Prop :=
∃ i2 : Int, ∃ i3 : Int, ∃ i4 : Int, ∃ i5 : Int, ∃ i6 : Int, ∃ i7 : Int, ∃ i8 : Int, ∃ i9 : Int, CallN Tryz.prog 163 [] [[(.con .nilFunc), (.con (.int .i64 0)), (.con (.int .i64 0)), (.con (.int .i64 0)), (.con (.int .i64 0)), (.con (.int .i64 0)), (.con (.int .i64 0)), (.con (.int .i64 0)), (.con (.int .i64 0))]] (.agg [(.fn 195 []), i2, i3, i4, i5, i6, i7, i8, i9])
  (br (((i1 : Int) == 0))
  (Q (.agg [(.fn 164 []), i2, i3, i4, i5, i6, i7, i8, i9]) [[(.fn 164 []), i2, i3, i4, i5, i6, i7, i8, i9], [(.fn 164 []), i2, i3, i4, i5, i6, i7, i8, i9]])
  (br (((i1 : Int) == 1))
  (Q (.agg [(.fn 164 []), i2, i3, i4, i5, i6, i7, i8, i9]) [[(.fn 164 []), i2, i3, i4, i5, i6, i7, i8, i9], [(.fn 164 []), i2, i3, i4, i5, i6, i7, i8, i9]])
  (br (((i1 : Int) == 2))
  (Q (.agg [(.fn 82 []), i2, i3, i4, i5, i6, i7, i8, i9]) [[(.fn 82 []), i2, i3, i4, i5, i6, i7, i8, i9], [(.fn 82 []), i2, i3, i4, i5, i6, i7, i8, i9]])
  (br (((i1 : Int) == 3))
  (∃ i10 : Int, ∃ i11 : Int, CallN Tryz.prog 33 [(.con (.int .i64 2)), (.con (.int .i64 6))] [[(.con .nilFunc), (.con (.int .i64 0)), (.con (.int .i64 0)), (.con (.int .i64 0)), (.con (.int .i64 0)), (.con (.int .i64 0)), (.con (.int .i64 0)), (.con (.int .i64 0)), (.con (.int .i64 0))], [(.fn 195 []), i2, i3, i4, i5, i6, i7, i8, i9]] (.agg [i10, i11])
  (Q (.agg [(.fn 164 []), i2, i3, i4, i5, i10, i11, i8, i9]) [[(.fn 164 []), i2, i3, i4, i5, i10, i11, i8, i9], [(.fn 164 []), i2, i3, i4, i5, i10, i11, i8, i9]]))
  (Q (.agg [(.fn 195 []), i2, i3, i4, i5, i6, i7, i8, i9]) [[(.fn 195 []), i2, i3, i4, i5, i6, i7, i8, i9], [(.fn 195 []), i2, i3, i4, i5, i6, i7, i8, i9]])))))
theorem a110 (i1 : Int) (Q : PV → Heap → Prop) (h : p110 i1 Q) : ACalls Tryz.prog 110 [i1] [] Q := by
  have hb : Option.some (bodyOf Tryz.f110) = Tryz.f110.body := by kernel_rfl
  exact acalls_eq (S := S) (L := loops110) mixed tok Tryz.func110 hb.symm (by kernel_rfl) h
def loops106 (id : Nat) : Option (List Nat × List (Nat × Sh)) := none
def p106 (i1 : Int) (Q : PV → Heap → Prop) : Prop :=
∃ i2 : Int, ∃ i3 : Int, ∃ i4 : Int, ∃ i5 : Int, ∃ i6 : Int, ∃ i7 : Int, ∃ i8 : Int, ∃ i9 : Int, CallN Tryz.prog 163 [] [[(.con .nilFunc), (.con (.int .i64 0)), (.con (.int .i64 0)), (.con (.int .i64 0)), (.con (.int .i64 0)), (.con (.int .i64 0)), (.con (.int .i64 0)), (.con (.int .i64 0)), (.con (.int .i64 0))]] (.agg [(.fn 195 []), i2, i3, i4, i5, i6, i7, i8, i9])
  (br (((i1 : Int) == 0))
  (Q (.agg [(.fn 164 []), i2, i3, i4, i5, i6, i7, i8, i9]) [[(.fn 164 []), i2, i3, i4, i5, i6, i7, i8, i9], [(.fn 164 []), i2, i3, i4, i5, i6, i7, i8, i9]])
  (br (((i1 : Int) == 1))
  (Q (.agg [(.fn 92 []), i2, i3, i4, i5, i6, i7, i8, i9]) [[(.fn 92 []), i2, i3, i4, i5, i6, i7, i8, i9], [(.fn 92 []), i2, i3, i4, i5, i6, i7, i8, i9]])
  (br (((i1 : Int) == 2))
  (∃ i10 : Int, ∃ i11 : Int, CallN Tryz.prog 33 [(.con (.int .i64 (-4611686018427387903))), (.con (.int .i64 4611686018427387903))] [[(.con .nilFunc), (.con (.int .i64 0)), (.con (.int .i64 0)), (.con (.int .i64 0)), (.con (.int .i64 0)), (.con (.int .i64 0)), (.con (.int .i64 0)), (.con (.int .i64 0)), (.con (.int .i64 0))], [(.fn 195 []), i2, i3, i4, i5, i6, i7, i8, i9]] (.agg [i10, i11])
  (Q (.agg [(.fn 164 []), i10, i11, i4, i5, i6, i7, i8, i9]) [[(.fn 164 []), i10, i11, i4, i5, i6, i7, i8, i9], [(.fn 164 []), i10, i11, i4, i5, i6, i7, i8, i9]]))
  (br (((i1 : Int) == 3))
  (∃ i12 : Int, ∃ i13 : Int, CallN Tryz.prog 33 [(.con (.int .i64 0)), (.con (.int .i64 6))] [[(.con .nilFunc), (.con (.int .i64 0)), (.con (.int .i64 0)), (.con (.int .i64 0)), (.con (.int .i64 0)), (.con (.int .i64 0)), (.con (.int .i64 0)), (.con (.int .i64 0)), (.con (.int .i64 0))], [(.fn 195 []), i2, i3, i4, i5, i6, i7, i8, i9]] (.agg [i12, i13])
  (Q (.agg [(.fn 156 []), i2, i3, i4, i5, i12, i13, i8, i9]) [[(.fn 156 []), i2, i3, i4, i5, i12, i13, i8, i9], [(.fn 156 []), i2, i3, i4, i5, i12, i13, i8, i9]]))
  (br (((i1 : Int) == 4))
  (∃ i14 : Int, ∃ i15 : Int, CallN Tryz.prog 33 [(.con (.int .i64 2)), (.con (.int .i64 6))] [[(.con .nilFunc), (.con (.int .i64 0)), (.con (.int .i64 0)), (.con (.int .i64 0)), (.con (.int .i64 0)), (.con (.int .i64 0)), (.con (.int .i64 0)), (.con (.int .i64 0)), (.con (.int .i64 0))], [(.fn 195 []), i2, i3, i4, i5, i6, i7, i8, i9]] (.agg [i14, i15])
  (Q (.agg [(.fn 164 []), i2, i3, i4, i5, i14, i15, i8, i9]) [[(.fn 164 []), i2, i3, i4, i5, i14, i15, i8, i9], [(.fn 164 []), i2, i3, i4, i5, i14, i15, i8, i9]]))
  (Q (.agg [(.fn 195 []), i2, i3, i4, i5, i6, i7, i8, i9]) [[(.fn 195 []), i2, i3, i4, i5, i6, i7, i8, i9], [(.fn 195 []), i2, i3, i4, i5, i6, i7, i8, i9]]))))))
theorem a106 (i1 : Int) (Q : PV → Heap → Prop) (h : p106 i1 Q) : ACalls Tryz.prog 106 [i1] [] Q := by
  have hb : Option.some (bodyOf Tryz.f106) = Tryz.f106.body := by kernel_rfl
  exact acalls_eq (S := S) (L := loops106) mixed tok Tryz.func106 hb.symm (by kernel_rfl) h
def loops163 (id : Nat) : Option (List Nat × List (Nat × Sh)) := none
def p163  (Q : PV → Heap → Prop) : Prop :=
Q (.agg [(.fn 195 []), (.con (.int .i64 0)), (.con (.int .i64 0)), (.con (.int .i64 0)), (.con (.int .i64 0)), (.con (.int .i64 0)), (.con (.int .i64 0)), (.con (.int .i64 0)), (.con (.int .i64 0))]) [[(.fn 195 []), (.con (.int .i64 0)), (.con (.int .i64 0)), (.con (.int .i64 0)), (.con (.int .i64 0)), (.con (.int .i64 0)), (.con (.int .i64 0)), (.con (.int .i64 0)), (.con (.int .i64 0))]]
theorem a163  (Q : PV → Heap → Prop) (h : p163  Q) : ACalls Tryz.prog 163 [] [] Q := by
  have hb : Option.some (bodyOf Tryz.f163) = Tryz.f163.body := by kernel_rfl
  exact acalls_eq (S := S) (L := loops163) mixed tok Tryz.func163 hb.symm (by kernel_rfl) h
def loops79 (id : Nat) : Option (List Nat × List (Nat × Sh)) := none
def p79 (i1 i2 i3 : Int) (Q : PV → Heap → Prop) : Prop :=
br ((decide ((i1 : Int) ≤ i3)))
  (Q (.con (.bool (decide ((i3 : Int) ≤ i2)))) [[i1, i2]])
  (Q (.con (.bool false)) [[i1, i2]])
theorem a79 (i1 i2 i3 : Int) (Q : PV → Heap → Prop) (h : p79 i1 i2 i3 Q) : ACalls Tryz.prog 79 [(.agg [i1, i2]), i3] [] Q := by
  have hb : Option.some (bodyOf Tryz.f79) = Tryz.f79.body := by kernel_rfl
  exact acalls_eq (S := S) (L := loops79) mixed tok Tryz.func79 hb.symm (by kernel_rfl) h
def loops34 (id : Nat) : Option (List Nat × List (Nat × Sh)) := none
def p34 (i1 i2 i3 : Int) (Q : PV → Heap → Prop) : Prop :=
∃ b4 : Bool, CallN Tryz.prog 79 [(.agg [i1, i2]), i3] [[i1, i2]] b4
  (Q b4 [[i1, i2]])
theorem a34 (i1 i2 i3 : Int) (Q : PV → Heap → Prop) (h : p34 i1 i2 i3 Q) : ACalls Tryz.prog 34 [(.agg [i1, i2]), i3] [] Q := by
  have hb : Option.some (bodyOf Tryz.f34) = Tryz.f34.body := by kernel_rfl
  exact acalls_eq (S := S) (L := loops34) mixed tok Tryz.func34 hb.symm (by kernel_rfl) h
def loops166 (id : Nat) : Option (List Nat × List (Nat × Sh)) := none
def p166 (i1 : Int) (Q : PV → Heap → Prop) : Prop :=
Q (.agg [i1, i1]) [[i1, i1]]
theorem a166 (i1 : Int) (Q : PV → Heap → Prop) (h : p166 i1 Q) : ACalls Tryz.prog 166 [i1] [] Q := by
  have hb : Option.some (bodyOf Tryz.f166) = Tryz.f166.body := by kernel_rfl
  exact acalls_eq (S := S) (L := loops166) mixed tok Tryz.func166 hb.symm (by kernel_rfl) h
def loops49 (id : Nat) : Option (List Nat × List (Nat × Sh)) := none
def p49 (i1 : Int) (s2 : ByteArray) (l3 : List (List PV)) (i4 : Int) (Q : PV → Heap → Prop) : Prop :=
(∃ i5 : Int, ∃ i6 : Int, ∃ i7 : Int, ∃ i8 : Int, ∃ i9 : Int, ∃ i10 : Int, ∃ i11 : Int, ∃ i12 : Int, CallN Tryz.prog 110 [i1] [[i1, s2, l3], [i4]] (.agg [(.fn 195 []), i5, i6, i7, i8, i9, i10, i11, i12])
  (br ((decide ((i4 : Int) > 0)))
  (∃ b13 : Bool, CallN Tryz.prog 195 [s2] [[i1, s2, l3], [i4], [(.fn 195 []), i5, i6, i7, i8, i9, i10, i11, i12]] b13
  (br (b13)
  (∃ b14 : Bool, CallN Tryz.prog 34 [(.agg [i9, i10]), (.con (.int .i64 (List.length l3 : Int)))] [[i1, s2, l3], [i4], [(.fn 195 []), i5, i6, i7, i8, i9, i10, i11, i12]] b14
  (br (b14)
  (∃ b15 : Bool, CallN Tryz.prog 111 [l3, (.fn 112 [(.ept [i4] 0)])] [[i1, s2, l3], [], [(.fn 195 []), i5, i6, i7, i8, i9, i10, i11, i12]] b15
  (Q b15 [[i1, s2, l3], [], [(.fn 195 []), i5, i6, i7, i8, i9, i10, i11, i12]]))
  (Q (.con (.bool false)) [[i1, s2, l3], [i4], [(.fn 195 []), i5, i6, i7, i8, i9, i10, i11, i12]])))
  (Q (.con (.bool false)) [[i1, s2, l3], [i4], [(.fn 195 []), i5, i6, i7, i8, i9, i10, i11, i12]])))
  (Q (.con (.bool false)) [[i1, s2, l3], [i4], [(.fn 195 []), i5, i6, i7, i8, i9, i10, i11, i12]]))) ∨ (∃ i16 : Int, ∃ i17 : Int, ∃ i18 : Int, ∃ i19 : Int, ∃ i20 : Int, ∃ i21 : Int, ∃ i22 : Int, ∃ i23 : Int, CallN Tryz.prog 110 [i1] [[i1, s2, l3], [i4]] (.agg [(.fn 164 []), i16, i17, i18, i19, i20, i21, i22, i23])
  (br ((decide ((i4 : Int) > 0)))
  (∃ b24 : Bool, CallN Tryz.prog 164 [s2] [[i1, s2, l3], [i4], [(.fn 164 []), i16, i17, i18, i19, i20, i21, i22, i23]] b24
  (br (b24)
  (∃ b25 : Bool, CallN Tryz.prog 34 [(.agg [i20, i21]), (.con (.int .i64 (List.length l3 : Int)))] [[i1, s2, l3], [i4], [(.fn 164 []), i16, i17, i18, i19, i20, i21, i22, i23]] b25
  (br (b25)
  (∃ b26 : Bool, CallN Tryz.prog 111 [l3, (.fn 112 [(.ept [i4] 0)])] [[i1, s2, l3], [], [(.fn 164 []), i16, i17, i18, i19, i20, i21, i22, i23]] b26
  (Q b26 [[i1, s2, l3], [], [(.fn 164 []), i16, i17, i18, i19, i20, i21, i22, i23]]))
  (Q (.con (.bool false)) [[i1, s2, l3], [i4], [(.fn 164 []), i16, i17, i18, i19, i20, i21, i22, i23]])))
  (Q (.con (.bool false)) [[i1, s2, l3], [i4], [(.fn 164 []), i16, i17, i18, i19, i20, i21, i22, i23]])))
  (Q (.con (.bool false)) [[i1, s2, l3], [i4], [(.fn 164 []), i16, i17, i18, i19, i20, i21, i22, i23]]))) ∨ (∃ i27 : Int, ∃ i28 : Int, ∃ i29 : Int, ∃ i30 : Int, ∃ i31 : Int, ∃ i32 : Int, ∃ i33 : Int, ∃ i34 : Int, CallN Tryz.prog 110 [i1] [[i1, s2, l3], [i4]] (.agg [(.fn 82 []), i27, i28, i29, i30, i31, i32, i33, i34])
  (br ((decide ((i4 : Int) > 0)))
  (∃ b35 : Bool, CallN Tryz.prog 82 [s2] [[i1, s2, l3], [i4], [(.fn 82 []), i27, i28, i29, i30, i31, i32, i33, i34]] b35
  (br (b35)
  (∃ b36 : Bool, CallN Tryz.prog 34 [(.agg [i31, i32]), (.con (.int .i64 (List.length l3 : Int)))] [[i1, s2, l3], [i4], [(.fn 82 []), i27, i28, i29, i30, i31, i32, i33, i34]] b36
  (br (b36)
  (∃ b37 : Bool, CallN Tryz.prog 111 [l3, (.fn 112 [(.ept [i4] 0)])] [[i1, s2, l3], [], [(.fn 82 []), i27, i28, i29, i30, i31, i32, i33, i34]] b37
  (Q b37 [[i1, s2, l3], [], [(.fn 82 []), i27, i28, i29, i30, i31, i32, i33, i34]]))
  (Q (.con (.bool false)) [[i1, s2, l3], [i4], [(.fn 82 []), i27, i28, i29, i30, i31, i32, i33, i34]])))
  (Q (.con (.bool false)) [[i1, s2, l3], [i4], [(.fn 82 []), i27, i28, i29, i30, i31, i32, i33, i34]])))
  (Q (.con (.bool false)) [[i1, s2, l3], [i4], [(.fn 82 []), i27, i28, i29, i30, i31, i32, i33, i34]])))
theorem a49 (i1 : Int) (s2 : ByteArray) (l3 : List (List PV)) (i4 : Int) (Q : PV → Heap → Prop) (h : p49 i1 s2 l3 i4 Q) : ACalls Tryz.prog 49 [(.agg [i1, s2, l3]), i4] [] Q := by
  have hb : Option.some (bodyOf Tryz.f49) = Tryz.f49.body := by kernel_rfl
  exact acalls_eq (S := S) (L := loops49) mixed tok Tryz.func49 hb.symm (by kernel_rfl) h
def loops18 (id : Nat) : Option (List Nat × List (Nat × Sh)) := none
def p18 (i1 : Int) (s2 : ByteArray) (l3 : List (List PV)) (Q : PV → Heap → Prop) : Prop :=
∃ b4 : Bool, CallN Tryz.prog 49 [(.agg [i1, s2, l3]), (.con (.int .i64 64))] [[i1, s2, l3]] b4
  (Q b4 [[i1, s2, l3]])
theorem a18 (i1 : Int) (s2 : ByteArray) (l3 : List (List PV)) (Q : PV → Heap → Prop) (h : p18 i1 s2 l3 Q) : ACalls Tryz.prog 18 [(.agg [i1, s2, l3])] [] Q := by
  have hb : Option.some (bodyOf Tryz.f18) = Tryz.f18.body := by kernel_rfl
  exact acalls_eq (S := S) (L := loops18) mixed tok Tryz.func18 hb.symm (by kernel_rfl) h
def loops112a (id : Nat) : Option (List Nat × List (Nat × Sh)) := none
def p112a (i1 : Int) (s2 : ByteArray) (l3 : List (List PV)) (i4 : Int) (Q : PV → Heap → Prop) : Prop :=
∃ b5 : Bool, CallN Tryz.prog 49 [(.agg [i1, s2, l3]), (IntKind.wrap .i64 (i4 - 1))] [[i1, s2, l3]] b5
  (Q b5 [[i1, s2, l3]])
theorem a112a (i1 : Int) (s2 : ByteArray) (l3 : List (List PV)) (i4 : Int) (Q : PV → Heap → Prop) (h : p112a i1 s2 l3 i4 Q) : ACalls Tryz.prog 112 [(.agg [i1, s2, l3]), (.ept [i4] 0)] [] Q := by
  have hb : Option.some (bodyOf Tryz.f112) = Tryz.f112.body := by kernel_rfl
  exact acalls_eq (S := S) (L := loops112a) mixed tok Tryz.func112 hb.symm (by kernel_rfl) h
def loops47 (id : Nat) : Option (List Nat × List (Nat × Sh)) := none
def p47 (i1 i2 i3 : Int) (s4 : ByteArray) (i5 : Int) (l6 : List (List PV)) (i7 : Int) (Q : PV → Heap → Prop) : Prop :=
(∃ i8 : Int, ∃ i9 : Int, ∃ i10 : Int, ∃ i11 : Int, ∃ i12 : Int, ∃ i13 : Int, ∃ i14 : Int, ∃ i15 : Int, CallN Tryz.prog 106 [i1] [[i1, i2, i3, s4, i5, l6], [i7]] (.agg [(.fn 195 []), i8, i9, i10, i11, i12, i13, i14, i15])
  (br ((decide ((i7 : Int) > 0)))
  (∃ b16 : Bool, CallN Tryz.prog 195 [s4] [[i1, i2, i3, s4, i5, l6], [i7], [(.fn 195 []), i8, i9, i10, i11, i12, i13, i14, i15]] b16
  (br (b16)
  (∃ b17 : Bool, CallN Tryz.prog 79 [(.agg [i8, i9]), i5] [[i1, i2, i3, s4, i5, l6], [i7], [(.fn 195 []), i8, i9, i10, i11, i12, i13, i14, i15]] b17
  (br (b17)
  (∃ b18 : Bool, CallN Tryz.prog 34 [(.agg [i12, i13]), (.con (.int .i64 (List.length l6 : Int)))] [[i1, i2, i3, s4, i5, l6], [i7], [(.fn 195 []), i8, i9, i10, i11, i12, i13, i14, i15]] b18
  (br (b18)
  (∃ b19 : Bool, CallN Tryz.prog 107 [l6, (.fn 108 [(.ept [i7] 0)])] [[i1, i2, i3, s4, i5, l6], [], [(.fn 195 []), i8, i9, i10, i11, i12, i13, i14, i15]] b19
  (Q b19 [[i1, i2, i3, s4, i5, l6], [], [(.fn 195 []), i8, i9, i10, i11, i12, i13, i14, i15]]))
  (Q (.con (.bool false)) [[i1, i2, i3, s4, i5, l6], [i7], [(.fn 195 []), i8, i9, i10, i11, i12, i13, i14, i15]])))
  (Q (.con (.bool false)) [[i1, i2, i3, s4, i5, l6], [i7], [(.fn 195 []), i8, i9, i10, i11, i12, i13, i14, i15]])))
  (Q (.con (.bool false)) [[i1, i2, i3, s4, i5, l6], [i7], [(.fn 195 []), i8, i9, i10, i11, i12, i13, i14, i15]])))
  (Q (.con (.bool false)) [[i1, i2, i3, s4, i5, l6], [i7], [(.fn 195 []), i8, i9, i10, i11, i12, i13, i14, i15]]))) ∨ (∃ i20 : Int, ∃ i21 : Int, ∃ i22 : Int, ∃ i23 : Int, ∃ i24 : Int, ∃ i25 : Int, ∃ i26 : Int, ∃ i27 : Int, CallN Tryz.prog 106 [i1] [[i1, i2, i3, s4, i5, l6], [i7]] (.agg [(.fn 164 []), i20, i21, i22, i23, i24, i25, i26, i27])
  (br ((decide ((i7 : Int) > 0)))
  (∃ b28 : Bool, CallN Tryz.prog 164 [s4] [[i1, i2, i3, s4, i5, l6], [i7], [(.fn 164 []), i20, i21, i22, i23, i24, i25, i26, i27]] b28
  (br (b28)
  (∃ b29 : Bool, CallN Tryz.prog 79 [(.agg [i20, i21]), i5] [[i1, i2, i3, s4, i5, l6], [i7], [(.fn 164 []), i20, i21, i22, i23, i24, i25, i26, i27]] b29
  (br (b29)
  (∃ b30 : Bool, CallN Tryz.prog 34 [(.agg [i24, i25]), (.con (.int .i64 (List.length l6 : Int)))] [[i1, i2, i3, s4, i5, l6], [i7], [(.fn 164 []), i20, i21, i22, i23, i24, i25, i26, i27]] b30
  (br (b30)
  (∃ b31 : Bool, CallN Tryz.prog 107 [l6, (.fn 108 [(.ept [i7] 0)])] [[i1, i2, i3, s4, i5, l6], [], [(.fn 164 []), i20, i21, i22, i23, i24, i25, i26, i27]] b31
  (Q b31 [[i1, i2, i3, s4, i5, l6], [], [(.fn 164 []), i20, i21, i22, i23, i24, i25, i26, i27]]))
  (Q (.con (.bool false)) [[i1, i2, i3, s4, i5, l6], [i7], [(.fn 164 []), i20, i21, i22, i23, i24, i25, i26, i27]])))
  (Q (.con (.bool false)) [[i1, i2, i3, s4, i5, l6], [i7], [(.fn 164 []), i20, i21, i22, i23, i24, i25, i26, i27]])))
  (Q (.con (.bool false)) [[i1, i2, i3, s4, i5, l6], [i7], [(.fn 164 []), i20, i21, i22, i23, i24, i25, i26, i27]])))
  (Q (.con (.bool false)) [[i1, i2, i3, s4, i5, l6], [i7], [(.fn 164 []), i20, i21, i22, i23, i24, i25, i26, i27]]))) ∨ (∃ i32 : Int, ∃ i33 : Int, ∃ i34 : Int, ∃ i35 : Int, ∃ i36 : Int, ∃ i37 : Int, ∃ i38 : Int, ∃ i39 : Int, CallN Tryz.prog 106 [i1] [[i1, i2, i3, s4, i5, l6], [i7]] (.agg [(.fn 92 []), i32, i33, i34, i35, i36, i37, i38, i39])
  (br ((decide ((i7 : Int) > 0)))
  (∃ b40 : Bool, CallN Tryz.prog 92 [s4] [[i1, i2, i3, s4, i5, l6], [i7], [(.fn 92 []), i32, i33, i34, i35, i36, i37, i38, i39]] b40
  (br (b40)
  (∃ b41 : Bool, CallN Tryz.prog 79 [(.agg [i32, i33]), i5] [[i1, i2, i3, s4, i5, l6], [i7], [(.fn 92 []), i32, i33, i34, i35, i36, i37, i38, i39]] b41
  (br (b41)
  (∃ b42 : Bool, CallN Tryz.prog 34 [(.agg [i36, i37]), (.con (.int .i64 (List.length l6 : Int)))] [[i1, i2, i3, s4, i5, l6], [i7], [(.fn 92 []), i32, i33, i34, i35, i36, i37, i38, i39]] b42
  (br (b42)
  (∃ b43 : Bool, CallN Tryz.prog 107 [l6, (.fn 108 [(.ept [i7] 0)])] [[i1, i2, i3, s4, i5, l6], [], [(.fn 92 []), i32, i33, i34, i35, i36, i37, i38, i39]] b43
  (Q b43 [[i1, i2, i3, s4, i5, l6], [], [(.fn 92 []), i32, i33, i34, i35, i36, i37, i38, i39]]))
  (Q (.con (.bool false)) [[i1, i2, i3, s4, i5, l6], [i7], [(.fn 92 []), i32, i33, i34, i35, i36, i37, i38, i39]])))
  (Q (.con (.bool false)) [[i1, i2, i3, s4, i5, l6], [i7], [(.fn 92 []), i32, i33, i34, i35, i36, i37, i38, i39]])))
  (Q (.con (.bool false)) [[i1, i2, i3, s4, i5, l6], [i7], [(.fn 92 []), i32, i33, i34, i35, i36, i37, i38, i39]])))
  (Q (.con (.bool false)) [[i1, i2, i3, s4, i5, l6], [i7], [(.fn 92 []), i32, i33, i34, i35, i36, i37, i38, i39]]))) ∨ (∃ i44 : Int, ∃ i45 : Int, ∃ i46 : Int, ∃ i47 : Int, ∃ i48 : Int, ∃ i49 : Int, ∃ i50 : Int, ∃ i51 : Int, CallN Tryz.prog 106 [i1] [[i1, i2, i3, s4, i5, l6], [i7]] (.agg [(.fn 156 []), i44, i45, i46, i47, i48, i49, i50, i51])
  (br ((decide ((i7 : Int) > 0)))
  (∃ b52 : Bool, CallN Tryz.prog 156 [s4] [[i1, i2, i3, s4, i5, l6], [i7], [(.fn 156 []), i44, i45, i46, i47, i48, i49, i50, i51]] b52
  (br (b52)
  (∃ b53 : Bool, CallN Tryz.prog 79 [(.agg [i44, i45]), i5] [[i1, i2, i3, s4, i5, l6], [i7], [(.fn 156 []), i44, i45, i46, i47, i48, i49, i50, i51]] b53
  (br (b53)
  (∃ b54 : Bool, CallN Tryz.prog 34 [(.agg [i48, i49]), (.con (.int .i64 (List.length l6 : Int)))] [[i1, i2, i3, s4, i5, l6], [i7], [(.fn 156 []), i44, i45, i46, i47, i48, i49, i50, i51]] b54
  (br (b54)
  (∃ b55 : Bool, CallN Tryz.prog 107 [l6, (.fn 108 [(.ept [i7] 0)])] [[i1, i2, i3, s4, i5, l6], [], [(.fn 156 []), i44, i45, i46, i47, i48, i49, i50, i51]] b55
  (Q b55 [[i1, i2, i3, s4, i5, l6], [], [(.fn 156 []), i44, i45, i46, i47, i48, i49, i50, i51]]))
  (Q (.con (.bool false)) [[i1, i2, i3, s4, i5, l6], [i7], [(.fn 156 []), i44, i45, i46, i47, i48, i49, i50, i51]])))
  (Q (.con (.bool false)) [[i1, i2, i3, s4, i5, l6], [i7], [(.fn 156 []), i44, i45, i46, i47, i48, i49, i50, i51]])))
  (Q (.con (.bool false)) [[i1, i2, i3, s4, i5, l6], [i7], [(.fn 156 []), i44, i45, i46, i47, i48, i49, i50, i51]])))
  (Q (.con (.bool false)) [[i1, i2, i3, s4, i5, l6], [i7], [(.fn 156 []), i44, i45, i46, i47, i48, i49, i50, i51]])))
theorem a47 (i1 i2 i3 : Int) (s4 : ByteArray) (i5 : Int) (l6 : List (List PV)) (i7 : Int) (Q : PV → Heap → Prop) (h : p47 i1 i2 i3 s4 i5 l6 i7 Q) : ACalls Tryz.prog 47 [(.agg [i1, i2, i3, s4, i5, l6]), i7] [] Q := by
  have hb : Option.some (bodyOf Tryz.f47) = Tryz.f47.body := by kernel_rfl
  exact acalls_eq (S := S) (L := loops47) mixed tok Tryz.func47 hb.symm (by kernel_rfl) h
def loops16 (id : Nat) : Option (List Nat × List (Nat × Sh)) := none
def p16 (i1 i2 i3 : Int) (s4 : ByteArray) (i5 : Int) (l6 : List (List PV)) (Q : PV → Heap → Prop) : Prop :=
∃ b7 : Bool, CallN Tryz.prog 47 [(.agg [i1, i2, i3, s4, i5, l6]), (.con (.int .i64 64))] [[i1, i2, i3, s4, i5, l6]] b7
  (Q b7 [[i1, i2, i3, s4, i5, l6]])
theorem a16 (i1 i2 i3 : Int) (s4 : ByteArray) (i5 : Int) (l6 : List (List PV)) (Q : PV → Heap → Prop) (h : p16 i1 i2 i3 s4 i5 l6 Q) : ACalls Tryz.prog 16 [(.agg [i1, i2, i3, s4, i5, l6])] [] Q := by
  have hb : Option.some (bodyOf Tryz.f16) = Tryz.f16.body := by kernel_rfl
  exact acalls_eq (S := S) (L := loops16) mixed tok Tryz.func16 hb.symm (by kernel_rfl) h
def loops108c (id : Nat) : Option (List Nat × List (Nat × Sh)) := none
def p108c (i1 i2 i3 : Int) (s4 : ByteArray) (i5 : Int) (l6 : List (List PV)) (i7 : Int) (Q : PV → Heap → Prop) : Prop :=
∃ b8 : Bool, CallN Tryz.prog 47 [(.agg [i1, i2, i3, s4, i5, l6]), (IntKind.wrap .i64 (i7 - 1))] [[i1, i2, i3, s4, i5, l6]] b8
  (Q b8 [[i1, i2, i3, s4, i5, l6]])
theorem a108c (i1 i2 i3 : Int) (s4 : ByteArray) (i5 : Int) (l6 : List (List PV)) (i7 : Int) (Q : PV → Heap → Prop) (h : p108c i1 i2 i3 s4 i5 l6 i7 Q) : ACalls Tryz.prog 108 [(.agg [i1, i2, i3, s4, i5, l6]), (.ept [i7] 0)] [] Q := by
  have hb : Option.some (bodyOf Tryz.f108) = Tryz.f108.body := by kernel_rfl
  exact acalls_eq (S := S) (L := loops108c) mixed tok Tryz.func108 hb.symm (by kernel_rfl) h
def loops45 (id : Nat) : Option (List Nat × List (Nat × Sh)) := none
def p45 (i1 i2 i3 i4 : Int) (l5 : List (List PV)) (s6 : ByteArray) (l7 l8 : List (List PV)) (i9 : Int) (Q : PV → Heap → Prop) : Prop :=
(∃ i10 : Int, ∃ i11 : Int, ∃ i12 : Int, ∃ i13 : Int, ∃ i14 : Int, ∃ i15 : Int, ∃ i16 : Int, ∃ i17 : Int, CallN Tryz.prog 100 [i1, i4] [[i1, i2, i3, i4, l5, s6, l7, l8], [i9]] (.agg [(.fn 195 []), i10, i11, i12, i13, i14, i15, i16, i17])
  (br ((decide ((i9 : Int) > 0)))
  (∃ b18 : Bool, CallN Tryz.prog 195 [s6] [[i1, i2, i3, i4, l5, s6, l7, l8], [i9], [(.fn 195 []), i10, i11, i12, i13, i14, i15, i16, i17]] b18
  (br (b18)
  (∃ b19 : Bool, CallN Tryz.prog 79 [(.agg [i10, i11]), i4] [[i1, i2, i3, i4, l5, s6, l7, l8], [i9], [(.fn 195 []), i10, i11, i12, i13, i14, i15, i16, i17]] b19
  (br (b19)
  (∃ b20 : Bool, CallN Tryz.prog 34 [(.agg [i12, i13]), (.con (.int .i64 (List.length l5 : Int)))] [[i1, i2, i3, i4, l5, s6, l7, l8], [i9], [(.fn 195 []), i10, i11, i12, i13, i14, i15, i16, i17]] b20
  (br (b20)
  (∃ b21 : Bool, CallN Tryz.prog 34 [(.agg [i14, i15]), (.con (.int .i64 (List.length l7 : Int)))] [[i1, i2, i3, i4, l5, s6, l7, l8], [i9], [(.fn 195 []), i10, i11, i12, i13, i14, i15, i16, i17]] b21
  (br (b21)
  (∃ b22 : Bool, CallN Tryz.prog 34 [(.agg [i16, i17]), (.con (.int .i64 (List.length l8 : Int)))] [[i1, i2, i3, i4, l5, s6, l7, l8], [i9], [(.fn 195 []), i10, i11, i12, i13, i14, i15, i16, i17]] b22
  (br (b22)
  (∃ b23 : Bool, CallN Tryz.prog 101 [l7, (.fn 102 [(.ept [i9] 0)])] [[i1, i2, i3, i4, l5, s6, l7, l8], [], [(.fn 195 []), i10, i11, i12, i13, i14, i15, i16, i17]] b23
  (br (b23)
  (∃ b24 : Bool, CallN Tryz.prog 103 [l8, (.fn 104 [(.ept [i9] 0)])] [[i1, i2, i3, i4, l5, s6, l7, l8], [], [(.fn 195 []), i10, i11, i12, i13, i14, i15, i16, i17]] b24
  (Q b24 [[i1, i2, i3, i4, l5, s6, l7, l8], [], [(.fn 195 []), i10, i11, i12, i13, i14, i15, i16, i17]]))
  (Q (.con (.bool false)) [[i1, i2, i3, i4, l5, s6, l7, l8], [], [(.fn 195 []), i10, i11, i12, i13, i14, i15, i16, i17]])))
  (Q (.con (.bool false)) [[i1, i2, i3, i4, l5, s6, l7, l8], [i9], [(.fn 195 []), i10, i11, i12, i13, i14, i15, i16, i17]])))
  (Q (.con (.bool false)) [[i1, i2, i3, i4, l5, s6, l7, l8], [i9], [(.fn 195 []), i10, i11, i12, i13, i14, i15, i16, i17]])))
  (Q (.con (.bool false)) [[i1, i2, i3, i4, l5, s6, l7, l8], [i9], [(.fn 195 []), i10, i11, i12, i13, i14, i15, i16, i17]])))
  (Q (.con (.bool false)) [[i1, i2, i3, i4, l5, s6, l7, l8], [i9], [(.fn 195 []), i10, i11, i12, i13, i14, i15, i16, i17]])))
  (Q (.con (.bool false)) [[i1, i2, i3, i4, l5, s6, l7, l8], [i9], [(.fn 195 []), i10, i11, i12, i13, i14, i15, i16, i17]])))
  (Q (.con (.bool false)) [[i1, i2, i3, i4, l5, s6, l7, l8], [i9], [(.fn 195 []), i10, i11, i12, i13, i14, i15, i16, i17]]))) ∨ (∃ i25 : Int, ∃ i26 : Int, ∃ i27 : Int, ∃ i28 : Int, ∃ i29 : Int, ∃ i30 : Int, ∃ i31 : Int, ∃ i32 : Int, CallN Tryz.prog 100 [i1, i4] [[i1, i2, i3, i4, l5, s6, l7, l8], [i9]] (.agg [(.fn 164 []), i25, i26, i27, i28, i29, i30, i31, i32])
  (br ((decide ((i9 : Int) > 0)))
  (∃ b33 : Bool, CallN Tryz.prog 164 [s6] [[i1, i2, i3, i4, l5, s6, l7, l8], [i9], [(.fn 164 []), i25, i26, i27, i28, i29, i30, i31, i32]] b33
  (br (b33)
  (∃ b34 : Bool, CallN Tryz.prog 79 [(.agg [i25, i26]), i4] [[i1, i2, i3, i4, l5, s6, l7, l8], [i9], [(.fn 164 []), i25, i26, i27, i28, i29, i30, i31, i32]] b34
  (br (b34)
  (∃ b35 : Bool, CallN Tryz.prog 34 [(.agg [i27, i28]), (.con (.int .i64 (List.length l5 : Int)))] [[i1, i2, i3, i4, l5, s6, l7, l8], [i9], [(.fn 164 []), i25, i26, i27, i28, i29, i30, i31, i32]] b35
  (br (b35)
  (∃ b36 : Bool, CallN Tryz.prog 34 [(.agg [i29, i30]), (.con (.int .i64 (List.length l7 : Int)))] [[i1, i2, i3, i4, l5, s6, l7, l8], [i9], [(.fn 164 []), i25, i26, i27, i28, i29, i30, i31, i32]] b36
  (br (b36)
  (∃ b37 : Bool, CallN Tryz.prog 34 [(.agg [i31, i32]), (.con (.int .i64 (List.length l8 : Int)))] [[i1, i2, i3, i4, l5, s6, l7, l8], [i9], [(.fn 164 []), i25, i26, i27, i28, i29, i30, i31, i32]] b37
  (br (b37)
  (∃ b38 : Bool, CallN Tryz.prog 101 [l7, (.fn 102 [(.ept [i9] 0)])] [[i1, i2, i3, i4, l5, s6, l7, l8], [], [(.fn 164 []), i25, i26, i27, i28, i29, i30, i31, i32]] b38
  (br (b38)
  (∃ b39 : Bool, CallN Tryz.prog 103 [l8, (.fn 104 [(.ept [i9] 0)])] [[i1, i2, i3, i4, l5, s6, l7, l8], [], [(.fn 164 []), i25, i26, i27, i28, i29, i30, i31, i32]] b39
  (Q b39 [[i1, i2, i3, i4, l5, s6, l7, l8], [], [(.fn 164 []), i25, i26, i27, i28, i29, i30, i31, i32]]))
  (Q (.con (.bool false)) [[i1, i2, i3, i4, l5, s6, l7, l8], [], [(.fn 164 []), i25, i26, i27, i28, i29, i30, i31, i32]])))
  (Q (.con (.bool false)) [[i1, i2, i3, i4, l5, s6, l7, l8], [i9], [(.fn 164 []), i25, i26, i27, i28, i29, i30, i31, i32]])))
  (Q (.con (.bool false)) [[i1, i2, i3, i4, l5, s6, l7, l8], [i9], [(.fn 164 []), i25, i26, i27, i28, i29, i30, i31, i32]])))
  (Q (.con (.bool false)) [[i1, i2, i3, i4, l5, s6, l7, l8], [i9], [(.fn 164 []), i25, i26, i27, i28, i29, i30, i31, i32]])))
  (Q (.con (.bool false)) [[i1, i2, i3, i4, l5, s6, l7, l8], [i9], [(.fn 164 []), i25, i26, i27, i28, i29, i30, i31, i32]])))
  (Q (.con (.bool false)) [[i1, i2, i3, i4, l5, s6, l7, l8], [i9], [(.fn 164 []), i25, i26, i27, i28, i29, i30, i31, i32]])))
  (Q (.con (.bool false)) [[i1, i2, i3, i4, l5, s6, l7, l8], [i9], [(.fn 164 []), i25, i26, i27, i28, i29, i30, i31, i32]]))) ∨ (∃ i40 : Int, ∃ i41 : Int, ∃ i42 : Int, ∃ i43 : Int, ∃ i44 : Int, ∃ i45 : Int, ∃ i46 : Int, ∃ i47 : Int, CallN Tryz.prog 100 [i1, i4] [[i1, i2, i3, i4, l5, s6, l7, l8], [i9]] (.agg [(.fn 165 []), i40, i41, i42, i43, i44, i45, i46, i47])
  (br ((decide ((i9 : Int) > 0)))
  (∃ b48 : Bool, CallN Tryz.prog 165 [s6] [[i1, i2, i3, i4, l5, s6, l7, l8], [i9], [(.fn 165 []), i40, i41, i42, i43, i44, i45, i46, i47]] b48
  (br (b48)
  (∃ b49 : Bool, CallN Tryz.prog 79 [(.agg [i40, i41]), i4] [[i1, i2, i3, i4, l5, s6, l7, l8], [i9], [(.fn 165 []), i40, i41, i42, i43, i44, i45, i46, i47]] b49
  (br (b49)
  (∃ b50 : Bool, CallN Tryz.prog 34 [(.agg [i42, i43]), (.con (.int .i64 (List.length l5 : Int)))] [[i1, i2, i3, i4, l5, s6, l7, l8], [i9], [(.fn 165 []), i40, i41, i42, i43, i44, i45, i46, i47]] b50
  (br (b50)
  (∃ b51 : Bool, CallN Tryz.prog 34 [(.agg [i44, i45]), (.con (.int .i64 (List.length l7 : Int)))] [[i1, i2, i3, i4, l5, s6, l7, l8], [i9], [(.fn 165 []), i40, i41, i42, i43, i44, i45, i46, i47]] b51
  (br (b51)
  (∃ b52 : Bool, CallN Tryz.prog 34 [(.agg [i46, i47]), (.con (.int .i64 (List.length l8 : Int)))] [[i1, i2, i3, i4, l5, s6, l7, l8], [i9], [(.fn 165 []), i40, i41, i42, i43, i44, i45, i46, i47]] b52
  (br (b52)
  (∃ b53 : Bool, CallN Tryz.prog 101 [l7, (.fn 102 [(.ept [i9] 0)])] [[i1, i2, i3, i4, l5, s6, l7, l8], [], [(.fn 165 []), i40, i41, i42, i43, i44, i45, i46, i47]] b53
  (br (b53)
  (∃ b54 : Bool, CallN Tryz.prog 103 [l8, (.fn 104 [(.ept [i9] 0)])] [[i1, i2, i3, i4, l5, s6, l7, l8], [], [(.fn 165 []), i40, i41, i42, i43, i44, i45, i46, i47]] b54
  (Q b54 [[i1, i2, i3, i4, l5, s6, l7, l8], [], [(.fn 165 []), i40, i41, i42, i43, i44, i45, i46, i47]]))
  (Q (.con (.bool false)) [[i1, i2, i3, i4, l5, s6, l7, l8], [], [(.fn 165 []), i40, i41, i42, i43, i44, i45, i46, i47]])))
  (Q (.con (.bool false)) [[i1, i2, i3, i4, l5, s6, l7, l8], [i9], [(.fn 165 []), i40, i41, i42, i43, i44, i45, i46, i47]])))
  (Q (.con (.bool false)) [[i1, i2, i3, i4, l5, s6, l7, l8], [i9], [(.fn 165 []), i40, i41, i42, i43, i44, i45, i46, i47]])))
  (Q (.con (.bool false)) [[i1, i2, i3, i4, l5, s6, l7, l8], [i9], [(.fn 165 []), i40, i41, i42, i43, i44, i45, i46, i47]])))
  (Q (.con (.bool false)) [[i1, i2, i3, i4, l5, s6, l7, l8], [i9], [(.fn 165 []), i40, i41, i42, i43, i44, i45, i46, i47]])))
  (Q (.con (.bool false)) [[i1, i2, i3, i4, l5, s6, l7, l8], [i9], [(.fn 165 []), i40, i41, i42, i43, i44, i45, i46, i47]])))
  (Q (.con (.bool false)) [[i1, i2, i3, i4, l5, s6, l7, l8], [i9], [(.fn 165 []), i40, i41, i42, i43, i44, i45, i46, i47]]))) ∨ (∃ i55 : Int, ∃ i56 : Int, ∃ i57 : Int, ∃ i58 : Int, ∃ i59 : Int, ∃ i60 : Int, ∃ i61 : Int, ∃ i62 : Int, CallN Tryz.prog 100 [i1, i4] [[i1, i2, i3, i4, l5, s6, l7, l8], [i9]] (.agg [(.fn 156 []), i55, i56, i57, i58, i59, i60, i61, i62])
  (br ((decide ((i9 : Int) > 0)))
  (∃ b63 : Bool, CallN Tryz.prog 156 [s6] [[i1, i2, i3, i4, l5, s6, l7, l8], [i9], [(.fn 156 []), i55, i56, i57, i58, i59, i60, i61, i62]] b63
  (br (b63)
  (∃ b64 : Bool, CallN Tryz.prog 79 [(.agg [i55, i56]), i4] [[i1, i2, i3, i4, l5, s6, l7, l8], [i9], [(.fn 156 []), i55, i56, i57, i58, i59, i60, i61, i62]] b64
  (br (b64)
  (∃ b65 : Bool, CallN Tryz.prog 34 [(.agg [i57, i58]), (.con (.int .i64 (List.length l5 : Int)))] [[i1, i2, i3, i4, l5, s6, l7, l8], [i9], [(.fn 156 []), i55, i56, i57, i58, i59, i60, i61, i62]] b65
  (br (b65)
  (∃ b66 : Bool, CallN Tryz.prog 34 [(.agg [i59, i60]), (.con (.int .i64 (List.length l7 : Int)))] [[i1, i2, i3, i4, l5, s6, l7, l8], [i9], [(.fn 156 []), i55, i56, i57, i58, i59, i60, i61, i62]] b66
  (br (b66)
  (∃ b67 : Bool, CallN Tryz.prog 34 [(.agg [i61, i62]), (.con (.int .i64 (List.length l8 : Int)))] [[i1, i2, i3, i4, l5, s6, l7, l8], [i9], [(.fn 156 []), i55, i56, i57, i58, i59, i60, i61, i62]] b67
  (br (b67)
  (∃ b68 : Bool, CallN Tryz.prog 101 [l7, (.fn 102 [(.ept [i9] 0)])] [[i1, i2, i3, i4, l5, s6, l7, l8], [], [(.fn 156 []), i55, i56, i57, i58, i59, i60, i61, i62]] b68
  (br (b68)
  (∃ b69 : Bool, CallN Tryz.prog 103 [l8, (.fn 104 [(.ept [i9] 0)])] [[i1, i2, i3, i4, l5, s6, l7, l8], [], [(.fn 156 []), i55, i56, i57, i58, i59, i60, i61, i62]] b69
  (Q b69 [[i1, i2, i3, i4, l5, s6, l7, l8], [], [(.fn 156 []), i55, i56, i57, i58, i59, i60, i61, i62]]))
  (Q (.con (.bool false)) [[i1, i2, i3, i4, l5, s6, l7, l8], [], [(.fn 156 []), i55, i56, i57, i58, i59, i60, i61, i62]])))
  (Q (.con (.bool false)) [[i1, i2, i3, i4, l5, s6, l7, l8], [i9], [(.fn 156 []), i55, i56, i57, i58, i59, i60, i61, i62]])))
  (Q (.con (.bool false)) [[i1, i2, i3, i4, l5, s6, l7, l8], [i9], [(.fn 156 []), i55, i56, i57, i58, i59, i60, i61, i62]])))
  (Q (.con (.bool false)) [[i1, i2, i3, i4, l5, s6, l7, l8], [i9], [(.fn 156 []), i55, i56, i57, i58, i59, i60, i61, i62]])))
  (Q (.con (.bool false)) [[i1, i2, i3, i4, l5, s6, l7, l8], [i9], [(.fn 156 []), i55, i56, i57, i58, i59, i60, i61, i62]])))
  (Q (.con (.bool false)) [[i1, i2, i3, i4, l5, s6, l7, l8], [i9], [(.fn 156 []), i55, i56, i57, i58, i59, i60, i61, i62]])))
  (Q (.con (.bool false)) [[i1, i2, i3, i4, l5, s6, l7, l8], [i9], [(.fn 156 []), i55, i56, i57, i58, i59, i60, i61, i62]]))) ∨ (∃ i70 : Int, ∃ i71 : Int, ∃ i72 : Int, ∃ i73 : Int, ∃ i74 : Int, ∃ i75 : Int, ∃ i76 : Int, ∃ i77 : Int, CallN Tryz.prog 100 [i1, i4] [[i1, i2, i3, i4, l5, s6, l7, l8], [i9]] (.agg [(.fn 87 []), i70, i71, i72, i73, i74, i75, i76, i77])
  (br ((decide ((i9 : Int) > 0)))
  (∃ b78 : Bool, CallN Tryz.prog 87 [s6] [[i1, i2, i3, i4, l5, s6, l7, l8], [i9], [(.fn 87 []), i70, i71, i72, i73, i74, i75, i76, i77]] b78
  (br (b78)
  (∃ b79 : Bool, CallN Tryz.prog 79 [(.agg [i70, i71]), i4] [[i1, i2, i3, i4, l5, s6, l7, l8], [i9], [(.fn 87 []), i70, i71, i72, i73, i74, i75, i76, i77]] b79
  (br (b79)
  (∃ b80 : Bool, CallN Tryz.prog 34 [(.agg [i72, i73]), (.con (.int .i64 (List.length l5 : Int)))] [[i1, i2, i3, i4, l5, s6, l7, l8], [i9], [(.fn 87 []), i70, i71, i72, i73, i74, i75, i76, i77]] b80
  (br (b80)
  (∃ b81 : Bool, CallN Tryz.prog 34 [(.agg [i74, i75]), (.con (.int .i64 (List.length l7 : Int)))] [[i1, i2, i3, i4, l5, s6, l7, l8], [i9], [(.fn 87 []), i70, i71, i72, i73, i74, i75, i76, i77]] b81
  (br (b81)
  (∃ b82 : Bool, CallN Tryz.prog 34 [(.agg [i76, i77]), (.con (.int .i64 (List.length l8 : Int)))] [[i1, i2, i3, i4, l5, s6, l7, l8], [i9], [(.fn 87 []), i70, i71, i72, i73, i74, i75, i76, i77]] b82
  (br (b82)
  (∃ b83 : Bool, CallN Tryz.prog 101 [l7, (.fn 102 [(.ept [i9] 0)])] [[i1, i2, i3, i4, l5, s6, l7, l8], [], [(.fn 87 []), i70, i71, i72, i73, i74, i75, i76, i77]] b83
  (br (b83)
  (∃ b84 : Bool, CallN Tryz.prog 103 [l8, (.fn 104 [(.ept [i9] 0)])] [[i1, i2, i3, i4, l5, s6, l7, l8], [], [(.fn 87 []), i70, i71, i72, i73, i74, i75, i76, i77]] b84
  (Q b84 [[i1, i2, i3, i4, l5, s6, l7, l8], [], [(.fn 87 []), i70, i71, i72, i73, i74, i75, i76, i77]]))
  (Q (.con (.bool false)) [[i1, i2, i3, i4, l5, s6, l7, l8], [], [(.fn 87 []), i70, i71, i72, i73, i74, i75, i76, i77]])))
  (Q (.con (.bool false)) [[i1, i2, i3, i4, l5, s6, l7, l8], [i9], [(.fn 87 []), i70, i71, i72, i73, i74, i75, i76, i77]])))
  (Q (.con (.bool false)) [[i1, i2, i3, i4, l5, s6, l7, l8], [i9], [(.fn 87 []), i70, i71, i72, i73, i74, i75, i76, i77]])))
  (Q (.con (.bool false)) [[i1, i2, i3, i4, l5, s6, l7, l8], [i9], [(.fn 87 []), i70, i71, i72, i73, i74, i75, i76, i77]])))
  (Q (.con (.bool false)) [[i1, i2, i3, i4, l5, s6, l7, l8], [i9], [(.fn 87 []), i70, i71, i72, i73, i74, i75, i76, i77]])))
  (Q (.con (.bool false)) [[i1, i2, i3, i4, l5, s6, l7, l8], [i9], [(.fn 87 []), i70, i71, i72, i73, i74, i75, i76, i77]])))
  (Q (.con (.bool false)) [[i1, i2, i3, i4, l5, s6, l7, l8], [i9], [(.fn 87 []), i70, i71, i72, i73, i74, i75, i76, i77]]))) ∨ (∃ i85 : Int, ∃ i86 : Int, ∃ i87 : Int, ∃ i88 : Int, ∃ i89 : Int, ∃ i90 : Int, ∃ i91 : Int, ∃ i92 : Int, CallN Tryz.prog 100 [i1, i4] [[i1, i2, i3, i4, l5, s6, l7, l8], [i9]] (.agg [(.fn 92 []), i85, i86, i87, i88, i89, i90, i91, i92])
  (br ((decide ((i9 : Int) > 0)))
  (∃ b93 : Bool, CallN Tryz.prog 92 [s6] [[i1, i2, i3, i4, l5, s6, l7, l8], [i9], [(.fn 92 []), i85, i86, i87, i88, i89, i90, i91, i92]] b93
  (br (b93)
  (∃ b94 : Bool, CallN Tryz.prog 79 [(.agg [i85, i86]), i4] [[i1, i2, i3, i4, l5, s6, l7, l8], [i9], [(.fn 92 []), i85, i86, i87, i88, i89, i90, i91, i92]] b94
  (br (b94)
  (∃ b95 : Bool, CallN Tryz.prog 34 [(.agg [i87, i88]), (.con (.int .i64 (List.length l5 : Int)))] [[i1, i2, i3, i4, l5, s6, l7, l8], [i9], [(.fn 92 []), i85, i86, i87, i88, i89, i90, i91, i92]] b95
  (br (b95)
  (∃ b96 : Bool, CallN Tryz.prog 34 [(.agg [i89, i90]), (.con (.int .i64 (List.length l7 : Int)))] [[i1, i2, i3, i4, l5, s6, l7, l8], [i9], [(.fn 92 []), i85, i86, i87, i88, i89, i90, i91, i92]] b96
  (br (b96)
  (∃ b97 : Bool, CallN Tryz.prog 34 [(.agg [i91, i92]), (.con (.int .i64 (List.length l8 : Int)))] [[i1, i2, i3, i4, l5, s6, l7, l8], [i9], [(.fn 92 []), i85, i86, i87, i88, i89, i90, i91, i92]] b97
  (br (b97)
  (∃ b98 : Bool, CallN Tryz.prog 101 [l7, (.fn 102 [(.ept [i9] 0)])] [[i1, i2, i3, i4, l5, s6, l7, l8], [], [(.fn 92 []), i85, i86, i87, i88, i89, i90, i91, i92]] b98
  (br (b98)
  (∃ b99 : Bool, CallN Tryz.prog 103 [l8, (.fn 104 [(.ept [i9] 0)])] [[i1, i2, i3, i4, l5, s6, l7, l8], [], [(.fn 92 []), i85, i86, i87, i88, i89, i90, i91, i92]] b99
  (Q b99 [[i1, i2, i3, i4, l5, s6, l7, l8], [], [(.fn 92 []), i85, i86, i87, i88, i89, i90, i91, i92]]))
  (Q (.con (.bool false)) [[i1, i2, i3, i4, l5, s6, l7, l8], [], [(.fn 92 []), i85, i86, i87, i88, i89, i90, i91, i92]])))
  (Q (.con (.bool false)) [[i1, i2, i3, i4, l5, s6, l7, l8], [i9], [(.fn 92 []), i85, i86, i87, i88, i89, i90, i91, i92]])))
  (Q (.con (.bool false)) [[i1, i2, i3, i4, l5, s6, l7, l8], [i9], [(.fn 92 []), i85, i86, i87, i88, i89, i90, i91, i92]])))
  (Q (.con (.bool false)) [[i1, i2, i3, i4, l5, s6, l7, l8], [i9], [(.fn 92 []), i85, i86, i87, i88, i89, i90, i91, i92]])))
  (Q (.con (.bool false)) [[i1, i2, i3, i4, l5, s6, l7, l8], [i9], [(.fn 92 []), i85, i86, i87, i88, i89, i90, i91, i92]])))
  (Q (.con (.bool false)) [[i1, i2, i3, i4, l5, s6, l7, l8], [i9], [(.fn 92 []), i85, i86, i87, i88, i89, i90, i91, i92]])))
  (Q (.con (.bool false)) [[i1, i2, i3, i4, l5, s6, l7, l8], [i9], [(.fn 92 []), i85, i86, i87, i88, i89, i90, i91, i92]])))
theorem a45 (i1 i2 i3 i4 : Int) (l5 : List (List PV)) (s6 : ByteArray) (l7 l8 : List (List PV)) (i9 : Int) (Q : PV → Heap → Prop) (h : p45 i1 i2 i3 i4 l5 s6 l7 l8 i9 Q) : ACalls Tryz.prog 45 [(.agg [i1, i2, i3, i4, l5, s6, l7, l8]), i9] [] Q := by
  have hb : Option.some (bodyOf Tryz.f45) = Tryz.f45.body := by kernel_rfl
  exact acalls_eq (S := S) (L := loops45) mixed tok Tryz.func45 hb.symm (by kernel_rfl) h
def loops14 (id : Nat) : Option (List Nat × List (Nat × Sh)) := none
def p14 (i1 i2 i3 i4 : Int) (l5 : List (List PV)) (s6 : ByteArray) (l7 l8 : List (List PV)) (Q : PV → Heap → Prop) : Prop :=
∃ b9 : Bool, CallN Tryz.prog 45 [(.agg [i1, i2, i3, i4, l5, s6, l7, l8]), (.con (.int .i64 64))] [[i1, i2, i3, i4, l5, s6, l7, l8]] b9
  (Q b9 [[i1, i2, i3, i4, l5, s6, l7, l8]])
theorem a14 (i1 i2 i3 i4 : Int) (l5 : List (List PV)) (s6 : ByteArray) (l7 l8 : List (List PV)) (Q : PV → Heap → Prop) (h : p14 i1 i2 i3 i4 l5 s6 l7 l8 Q) : ACalls Tryz.prog 14 [(.agg [i1, i2, i3, i4, l5, s6, l7, l8])] [] Q := by
  have hb : Option.some (bodyOf Tryz.f14) = Tryz.f14.body := by kernel_rfl
  exact acalls_eq (S := S) (L := loops14) mixed tok Tryz.func14 hb.symm (by kernel_rfl) h
def loops102d (id : Nat) : Option (List Nat × List (Nat × Sh)) := none
def p102d (i1 i2 i3 i4 : Int) (l5 : List (List PV)) (s6 : ByteArray) (l7 l8 : List (List PV)) (i9 : Int) (Q : PV → Heap → Prop) : Prop :=
∃ b10 : Bool, CallN Tryz.prog 45 [(.agg [i1, i2, i3, i4, l5, s6, l7, l8]), (IntKind.wrap .i64 (i9 - 1))] [[i1, i2, i3, i4, l5, s6, l7, l8]] b10
  (Q b10 [[i1, i2, i3, i4, l5, s6, l7, l8]])
theorem a102d (i1 i2 i3 i4 : Int) (l5 : List (List PV)) (s6 : ByteArray) (l7 l8 : List (List PV)) (i9 : Int) (Q : PV → Heap → Prop) (h : p102d i1 i2 i3 i4 l5 s6 l7 l8 i9 Q) : ACalls Tryz.prog 102 [(.agg [i1, i2, i3, i4, l5, s6, l7, l8]), (.ept [i9] 0)] [] Q := by
  have hb : Option.some (bodyOf Tryz.f102) = Tryz.f102.body := by kernel_rfl
  exact acalls_eq (S := S) (L := loops102d) mixed tok Tryz.func102 hb.symm (by kernel_rfl) h
def loops104e (id : Nat) : Option (List Nat × List (Nat × Sh)) := none
def p104e (i1 i2 i3 : Int) (s4 : ByteArray) (i5 : Int) (l6 : List (List PV)) (i7 i8 i9 i10 : Int) (l11 : List (List PV)) (s12 : ByteArray) (l13 l14 : List (List PV)) (i15 : Int) (Q : PV → Heap → Prop) : Prop :=
∃ b16 : Bool, CallN Tryz.prog 47 [(.agg [i1, i2, i3, s4, i5, l6]), (IntKind.wrap .i64 (i15 - 1))] [[i1, i2, i3, s4, i5, l6, i7, i8, i9, i10, l11, s12, l13, l14]] b16
  (br (b16)
  (∃ b17 : Bool, CallN Tryz.prog 45 [(.agg [i7, i8, i9, i10, l11, s12, l13, l14]), (IntKind.wrap .i64 (i15 - 1))] [[i1, i2, i3, s4, i5, l6, i7, i8, i9, i10, l11, s12, l13, l14]] b17
  (Q b17 [[i1, i2, i3, s4, i5, l6, i7, i8, i9, i10, l11, s12, l13, l14]]))
  (Q (.con (.bool false)) [[i1, i2, i3, s4, i5, l6, i7, i8, i9, i10, l11, s12, l13, l14]]))
theorem a104e (i1 i2 i3 : Int) (s4 : ByteArray) (i5 : Int) (l6 : List (List PV)) (i7 i8 i9 i10 : Int) (l11 : List (List PV)) (s12 : ByteArray) (l13 l14 : List (List PV)) (i15 : Int) (Q : PV → Heap → Prop) (h : p104e i1 i2 i3 s4 i5 l6 i7 i8 i9 i10 l11 s12 l13 l14 i15 Q) : ACalls Tryz.prog 104 [(.agg [i1, i2, i3, s4, i5, l6, i7, i8, i9, i10, l11, s12, l13, l14]), (.ept [i15] 0)] [] Q := by
  have hb : Option.some (bodyOf Tryz.f104) = Tryz.f104.body := by kernel_rfl
  exact acalls_eq (S := S) (L := loops104e) mixed tok Tryz.func104 hb.symm (by kernel_rfl) h
def loops84 (id : Nat) : Option (List Nat × List (Nat × Sh)) := none
def p84 (s1 : ByteArray) (l2 : List (List PV)) (Q : PV → Heap → Prop) : Prop :=
∃ b3 : Bool, CallN Tryz.prog 156 [s1] [[s1, l2]] b3
  (br (b3)
  (br ((decide (((List.length l2 : Int) : Int) ≤ 6)))
  (∃ b4 : Bool, CallN Tryz.prog 111 [l2, (.fn 18 [])] [[s1, l2]] b4
  (Q b4 [[s1, l2]]))
  (Q (.con (.bool false)) [[s1, l2]]))
  (Q (.con (.bool false)) [[s1, l2]]))
theorem a84 (s1 : ByteArray) (l2 : List (List PV)) (Q : PV → Heap → Prop) (h : p84 s1 l2 Q) : ACalls Tryz.prog 84 [(.agg [s1, l2])] [] Q := by
  have hb : Option.some (bodyOf Tryz.f84) = Tryz.f84.body := by kernel_rfl
  exact acalls_eq (S := S) (L := loops84) mixed tok Tryz.func84 hb.symm (by kernel_rfl) h
def loops36 (id : Nat) : Option (List Nat × List (Nat × Sh)) := none
def p36 (i1 i2 : Int) (s3 : ByteArray) (l4 : List (List PV)) (Q : PV → Heap → Prop) : Prop :=
∃ b5 : Bool, CallN Tryz.prog 82 [s3] [] b5
  (br (b5)
  (∃ i6 : Int, ∃ i7 : Int, CallN Tryz.prog 33 [(.con (.int .i64 1)), (.con (.int .i64 16))] [] (.agg [i6, i7])
  (∃ b8 : Bool, CallN Tryz.prog 34 [(.agg [i6, i7]), (.con (.int .i64 (List.length l4 : Int)))] [] b8
  (br (b8)
  (∃ b9 : Bool, CallN Tryz.prog 83 [l4, (.fn 84 [])] [] b9
  (Q b9 [[i1, i2, s3, l4]]))
  (Q (.con (.bool false)) [[i1, i2, s3, l4]]))))
  (Q (.con (.bool false)) [[i1, i2, s3, l4]]))
theorem a36 (i1 i2 : Int) (s3 : ByteArray) (l4 : List (List PV)) (Q : PV → Heap → Prop) (h : p36 i1 i2 s3 l4 Q) : ACalls Tryz.prog 36 [(.agg [i1, i2, s3, l4])] [] Q := by
  have hb : Option.some (bodyOf Tryz.f36) = Tryz.f36.body := by kernel_rfl
  exact acalls_eq (S := S) (L := loops36) mixed tok Tryz.func36 hb.symm (by kernel_rfl) h
def loops89 (id : Nat) : Option (List Nat × List (Nat × Sh)) := none
def p89 (s1 : ByteArray) (i2 : Int) (s3 : ByteArray) (l4 : List (List PV)) (Q : PV → Heap → Prop) : Prop :=
∃ b5 : Bool, CallN Tryz.prog 92 [s1] [[s1, i2, s3, l4]] b5
  (br (b5)
  (∃ b6 : Bool, CallN Tryz.prog 18 [(.agg [i2, s3, l4])] [[s1, i2, s3, l4]] b6
  (Q b6 [[s1, i2, s3, l4]]))
  (Q (.con (.bool false)) [[s1, i2, s3, l4]]))
theorem a89 (s1 : ByteArray) (i2 : Int) (s3 : ByteArray) (l4 : List (List PV)) (Q : PV → Heap → Prop) (h : p89 s1 i2 s3 l4 Q) : ACalls Tryz.prog 89 [(.agg [s1, i2, s3, l4])] [] Q := by
  have hb : Option.some (bodyOf Tryz.f89) = Tryz.f89.body := by kernel_rfl
  exact acalls_eq (S := S) (L := loops89) mixed tok Tryz.func89 hb.symm (by kernel_rfl) h
def loops38 (id : Nat) : Option (List Nat × List (Nat × Sh)) := none
def p38 (i1 i2 : Int) (s3 : ByteArray) (l4 : List (List PV)) (i5 : Int) (s6 : ByteArray) (l7 : List (List PV)) (i8 i9 i10 i11 : Int) (l12 : List (List PV)) (s13 : ByteArray) (l14 l15 : List (List PV)) (Q : PV → Heap → Prop) : Prop :=
∃ b16 : Bool, CallN Tryz.prog 87 [s3] [] b16
  (br (b16)
  (∃ i17 : Int, ∃ i18 : Int, CallN Tryz.prog 33 [(.con (.int .i64 1)), (.con (.int .i64 6))] [] (.agg [i17, i18])
  (∃ b19 : Bool, CallN Tryz.prog 34 [(.agg [i17, i18]), (.con (.int .i64 (List.length l4 : Int)))] [] b19
  (br (b19)
  (∃ b20 : Bool, CallN Tryz.prog 88 [l4, (.fn 89 [])] [] b20
  (br (b20)
  (∃ b21 : Bool, CallN Tryz.prog 18 [(.agg [i5, s6, l7])] [] b21
  (br (b21)
  (∃ b22 : Bool, CallN Tryz.prog 14 [(.agg [i8, i9, i10, i11, l12, s13, l14, l15])] [] b22
  (Q b22 [[i1, i2, s3, l4, i5, s6, l7, i8, i9, i10, i11, l12, s13, l14, l15]]))
  (Q (.con (.bool false)) [[i1, i2, s3, l4, i5, s6, l7, i8, i9, i10, i11, l12, s13, l14, l15]])))
  (Q (.con (.bool false)) [[i1, i2, s3, l4, i5, s6, l7, i8, i9, i10, i11, l12, s13, l14, l15]])))
  (Q (.con (.bool false)) [[i1, i2, s3, l4, i5, s6, l7, i8, i9, i10, i11, l12, s13, l14, l15]]))))
  (Q (.con (.bool false)) [[i1, i2, s3, l4, i5, s6, l7, i8, i9, i10, i11, l12, s13, l14, l15]]))
theorem a38 (i1 i2 : Int) (s3 : ByteArray) (l4 : List (List PV)) (i5 : Int) (s6 : ByteArray) (l7 : List (List PV)) (i8 i9 i10 i11 : Int) (l12 : List (List PV)) (s13 : ByteArray) (l14 l15 : List (List PV)) (Q : PV → Heap → Prop) (h : p38 i1 i2 s3 l4 i5 s6 l7 i8 i9 i10 i11 l12 s13 l14 l15 Q) : ACalls Tryz.prog 38 [(.agg [i1, i2, s3, l4, i5, s6, l7, i8, i9, i10, i11, l12, s13, l14, l15])] [] Q := by
  have hb : Option.some (bodyOf Tryz.f38) = Tryz.f38.body := by kernel_rfl
  exact acalls_eq (S := S) (L := loops38) mixed tok Tryz.func38 hb.symm (by kernel_rfl) h
def loops40 (id : Nat) : Option (List Nat × List (Nat × Sh)) := none
def p40 (i1 i2 : Int) (s3 s4 : ByteArray) (i5 : Int) (s6 : ByteArray) (l7 : List (List PV)) (i8 i9 i10 i11 i12 : Int) (l13 : List (List PV)) (s14 : ByteArray) (l15 l16 : List (List PV)) (Q : PV → Heap → Prop) : Prop :=
∃ b17 : Bool, CallN Tryz.prog 92 [s3] [] b17
  (br (b17)
  (∃ b18 : Bool, CallN Tryz.prog 89 [(.agg [s4, i5, s6, l7])] [] b18
  (br (b18)
  (∃ i19 : Int, ∃ i20 : Int, CallN Tryz.prog 33 [(.con (.int .i64 0)), (.con (.int .i64 64))] [] (.agg [i19, i20])
  (∃ b21 : Bool, CallN Tryz.prog 34 [(.agg [i19, i20]), i8] [] b21
  (br (b21)
  (∃ b22 : Bool, CallN Tryz.prog 14 [(.agg [i9, i10, i11, i12, l13, s14, l15, l16])] [] b22
  (Q b22 [[i1, i2, s3, s4, i5, s6, l7, i8, i9, i10, i11, i12, l13, s14, l15, l16]]))
  (Q (.con (.bool false)) [[i1, i2, s3, s4, i5, s6, l7, i8, i9, i10, i11, i12, l13, s14, l15, l16]]))))
  (Q (.con (.bool false)) [[i1, i2, s3, s4, i5, s6, l7, i8, i9, i10, i11, i12, l13, s14, l15, l16]])))
  (Q (.con (.bool false)) [[i1, i2, s3, s4, i5, s6, l7, i8, i9, i10, i11, i12, l13, s14, l15, l16]]))
theorem a40 (i1 i2 : Int) (s3 s4 : ByteArray) (i5 : Int) (s6 : ByteArray) (l7 : List (List PV)) (i8 i9 i10 i11 i12 : Int) (l13 : List (List PV)) (s14 : ByteArray) (l15 l16 : List (List PV)) (Q : PV → Heap → Prop) (h : p40 i1 i2 s3 s4 i5 s6 l7 i8 i9 i10 i11 i12 l13 s14 l15 l16 Q) : ACalls Tryz.prog 40 [(.agg [i1, i2, s3, s4, i5, s6, l7, i8, i9, i10, i11, i12, l13, s14, l15, l16])] [] Q := by
  have hb : Option.some (bodyOf Tryz.f40) = Tryz.f40.body := by kernel_rfl
  exact acalls_eq (S := S) (L := loops40) mixed tok Tryz.func40 hb.symm (by kernel_rfl) h
def loops12 (id : Nat) : Option (List Nat × List (Nat × Sh)) := none
def p12 (l1 l2 : List (List PV)) (i3 i4 i5 : Int) (s6 : ByteArray) (l7 : List (List PV)) (i8 i9 i10 i11 i12 : Int) (l13 : List (List PV)) (s14 : ByteArray) (l15 l16 l17 : List (List PV)) (Q : PV → Heap → Prop) : Prop :=
br ((decide (((List.length l1 : Int) : Int) ≤ 32)))
  (br ((decide (((List.length l2 : Int) : Int) ≤ 48)))
  (br ((decide (((List.length l17 : Int) : Int) ≤ 16)))
  (∃ i18 : Int, ∃ i19 : Int, CallN Tryz.prog 33 [(.con (.int .i64 1)), (.con (.int .i64 32))] [] (.agg [i18, i19])
  (∃ b20 : Bool, CallN Tryz.prog 34 [(.agg [i18, i19]), i3] [] b20
  (br (b20)
  (∃ i21 : Int, ∃ i22 : Int, CallN Tryz.prog 33 [(.con (.int .i64 0)), (.con (.int .i64 32))] [] (.agg [i21, i22])
  (∃ b23 : Bool, CallN Tryz.prog 34 [(.agg [i21, i22]), i4] [] b23
  (br (b23)
  (∃ i24 : Int, ∃ i25 : Int, CallN Tryz.prog 33 [(.con (.int .i64 0)), (.con (.int .i64 256))] [] (.agg [i24, i25])
  (∃ b26 : Bool, CallN Tryz.prog 34 [(.agg [i24, i25]), i8] [] b26
  (br (b26)
  (∃ b27 : Bool, CallN Tryz.prog 35 [l1, (.fn 36 [])] [] b27
  (br (b27)
  (∃ b28 : Bool, CallN Tryz.prog 37 [l2, (.fn 38 [])] [] b28
  (br (b28)
  (∃ b29 : Bool, CallN Tryz.prog 18 [(.agg [i5, s6, l7])] [] b29
  (br (b29)
  (∃ b30 : Bool, CallN Tryz.prog 14 [(.agg [i9, i10, i11, i12, l13, s14, l15, l16])] [] b30
  (br (b30)
  (∃ b31 : Bool, CallN Tryz.prog 39 [l17, (.fn 40 [])] [] b31
  (Q b31 [[l1, l2, i3, i4, i5, s6, l7, i8, i9, i10, i11, i12, l13, s14, l15, l16, l17]]))
  (Q (.con (.bool false)) [[l1, l2, i3, i4, i5, s6, l7, i8, i9, i10, i11, i12, l13, s14, l15, l16, l17]])))
  (Q (.con (.bool false)) [[l1, l2, i3, i4, i5, s6, l7, i8, i9, i10, i11, i12, l13, s14, l15, l16, l17]])))
  (Q (.con (.bool false)) [[l1, l2, i3, i4, i5, s6, l7, i8, i9, i10, i11, i12, l13, s14, l15, l16, l17]])))
  (Q (.con (.bool false)) [[l1, l2, i3, i4, i5, s6, l7, i8, i9, i10, i11, i12, l13, s14, l15, l16, l17]])))
  (Q (.con (.bool false)) [[l1, l2, i3, i4, i5, s6, l7, i8, i9, i10, i11, i12, l13, s14, l15, l16, l17]]))))
  (Q (.con (.bool false)) [[l1, l2, i3, i4, i5, s6, l7, i8, i9, i10, i11, i12, l13, s14, l15, l16, l17]]))))
  (Q (.con (.bool false)) [[l1, l2, i3, i4, i5, s6, l7, i8, i9, i10, i11, i12, l13, s14, l15, l16, l17]]))))
  (Q (.con (.bool false)) [[l1, l2, i3, i4, i5, s6, l7, i8, i9, i10, i11, i12, l13, s14, l15, l16, l17]]))
  (Q (.con (.bool false)) [[l1, l2, i3, i4, i5, s6, l7, i8, i9, i10, i11, i12, l13, s14, l15, l16, l17]]))
  (Q (.con (.bool false)) [[l1, l2, i3, i4, i5, s6, l7, i8, i9, i10, i11, i12, l13, s14, l15, l16, l17]])
theorem a12 (l1 l2 : List (List PV)) (i3 i4 i5 : Int) (s6 : ByteArray) (l7 : List (List PV)) (i8 i9 i10 i11 i12 : Int) (l13 : List (List PV)) (s14 : ByteArray) (l15 l16 l17 : List (List PV)) (Q : PV → Heap → Prop) (h : p12 l1 l2 i3 i4 i5 s6 l7 i8 i9 i10 i11 i12 l13 s14 l15 l16 l17 Q) : ACalls Tryz.prog 12 [(.agg [l1, l2, i3, i4, i5, s6, l7, i8, i9, i10, i11, i12, l13, s14, l15, l16, l17])] [] Q := by
  have hb : Option.some (bodyOf Tryz.f12) = Tryz.f12.body := by kernel_rfl
  exact acalls_eq (S := S) (L := loops12) mixed tok Tryz.func12 hb.symm (by kernel_rfl) h
def loops100 (id : Nat) : Option (List Nat × List (Nat × Sh)) := none
def p100 (i1 i2 : Int) (Q : PV → Heap → Prop) : Prop :=
∃ i3 : Int, ∃ i4 : Int, ∃ i5 : Int, ∃ i6 : Int, ∃ i7 : Int, ∃ i8 : Int, ∃ i9 : Int, ∃ i10 : Int, CallN Tryz.prog 163 [] [[(.con .nilFunc), (.con (.int .i64 0)), (.con (.int .i64 0)), (.con (.int .i64 0)), (.con (.int .i64 0)), (.con (.int .i64 0)), (.con (.int .i64 0)), (.con (.int .i64 0)), (.con (.int .i64 0))]] (.agg [(.fn 195 []), i3, i4, i5, i6, i7, i8, i9, i10])
  (br (((i1 : Int) == 0))
  (∃ i11 : Int, ∃ i12 : Int, CallN Tryz.prog 33 [(.con (.int .i64 (-4611686018427387903))), (.con (.int .i64 4611686018427387903))] [[(.con .nilFunc), (.con (.int .i64 0)), (.con (.int .i64 0)), (.con (.int .i64 0)), (.con (.int .i64 0)), (.con (.int .i64 0)), (.con (.int .i64 0)), (.con (.int .i64 0)), (.con (.int .i64 0))], [(.fn 195 []), i3, i4, i5, i6, i7, i8, i9, i10]] (.agg [i11, i12])
  (Q (.agg [(.fn 164 []), i11, i12, i5, i6, i7, i8, i9, i10]) [[(.fn 164 []), i11, i12, i5, i6, i7, i8, i9, i10], [(.fn 164 []), i11, i12, i5, i6, i7, i8, i9, i10]]))
  (br (((i1 : Int) == 1))
  (∃ i13 : Int, ∃ i14 : Int, CallN Tryz.prog 33 [(.con (.int .i64 0)), (.con (.int .i64 64))] [[(.con .nilFunc), (.con (.int .i64 0)), (.con (.int .i64 0)), (.con (.int .i64 0)), (.con (.int .i64 0)), (.con (.int .i64 0)), (.con (.int .i64 0)), (.con (.int .i64 0)), (.con (.int .i64 0))], [(.fn 195 []), i3, i4, i5, i6, i7, i8, i9, i10]] (.agg [i13, i14])
  (Q (.agg [(.fn 164 []), i3, i4, i13, i14, i7, i8, i9, i10]) [[(.fn 164 []), i3, i4, i13, i14, i7, i8, i9, i10], [(.fn 164 []), i3, i4, i13, i14, i7, i8, i9, i10]]))
  (br (((i1 : Int) == 2))
  (Q (.agg [(.fn 165 []), i3, i4, i5, i6, i7, i8, i9, i10]) [[(.fn 165 []), i3, i4, i5, i6, i7, i8, i9, i10], [(.fn 165 []), i3, i4, i5, i6, i7, i8, i9, i10]])
  (br (((i1 : Int) == 3))
  (∃ i15 : Int, ∃ i16 : Int, CallN Tryz.prog 33 [(.con (.int .i64 0)), (.con (.int .i64 6))] [[(.con .nilFunc), (.con (.int .i64 0)), (.con (.int .i64 0)), (.con (.int .i64 0)), (.con (.int .i64 0)), (.con (.int .i64 0)), (.con (.int .i64 0)), (.con (.int .i64 0)), (.con (.int .i64 0))], [(.fn 195 []), i3, i4, i5, i6, i7, i8, i9, i10]] (.agg [i15, i16])
  (Q (.agg [(.fn 156 []), i3, i4, i5, i6, i15, i16, i9, i10]) [[(.fn 156 []), i3, i4, i5, i6, i15, i16, i9, i10], [(.fn 156 []), i3, i4, i5, i6, i15, i16, i9, i10]]))
  (br (((i1 : Int) == 4))
  (∃ i17 : Int, ∃ i18 : Int, CallN Tryz.prog 33 [(.con (.int .i64 2)), (.con (.int .i64 6))] [[(.con .nilFunc), (.con (.int .i64 0)), (.con (.int .i64 0)), (.con (.int .i64 0)), (.con (.int .i64 0)), (.con (.int .i64 0)), (.con (.int .i64 0)), (.con (.int .i64 0)), (.con (.int .i64 0))], [(.fn 195 []), i3, i4, i5, i6, i7, i8, i9, i10]] (.agg [i17, i18])
  (Q (.agg [(.fn 164 []), i3, i4, i5, i6, i17, i18, i9, i10]) [[(.fn 164 []), i3, i4, i5, i6, i17, i18, i9, i10], [(.fn 164 []), i3, i4, i5, i6, i17, i18, i9, i10]]))
  (br (((i1 : Int) == 5))
  (∃ i19 : Int, ∃ i20 : Int, CallN Tryz.prog 33 [(.con (.int .i64 1)), (.con (.int .i64 6))] [[(.con .nilFunc), (.con (.int .i64 0)), (.con (.int .i64 0)), (.con (.int .i64 0)), (.con (.int .i64 0)), (.con (.int .i64 0)), (.con (.int .i64 0)), (.con (.int .i64 0)), (.con (.int .i64 0))], [(.fn 195 []), i3, i4, i5, i6, i7, i8, i9, i10]] (.agg [i19, i20])
  (Q (.agg [(.fn 87 []), i3, i4, i5, i6, i19, i20, i9, i10]) [[(.fn 87 []), i3, i4, i5, i6, i19, i20, i9, i10], [(.fn 87 []), i3, i4, i5, i6, i19, i20, i9, i10]]))
  (br (((i1 : Int) == 6))
  (∃ i21 : Int, ∃ i22 : Int, CallN Tryz.prog 166 [(.con (.int .i64 2))] [[(.con .nilFunc), (.con (.int .i64 0)), (.con (.int .i64 0)), (.con (.int .i64 0)), (.con (.int .i64 0)), (.con (.int .i64 0)), (.con (.int .i64 0)), (.con (.int .i64 0)), (.con (.int .i64 0))], [(.fn 195 []), i3, i4, i5, i6, i7, i8, i9, i10]] (.agg [i21, i22])
  (Q (.agg [(.fn 92 []), i3, i4, i5, i6, i21, i22, i9, i10]) [[(.fn 92 []), i3, i4, i5, i6, i21, i22, i9, i10], [(.fn 92 []), i3, i4, i5, i6, i21, i22, i9, i10]]))
  (br (((i1 : Int) == 7))
  (∃ i23 : Int, ∃ i24 : Int, CallN Tryz.prog 166 [(.con (.int .i64 3))] [[(.con .nilFunc), (.con (.int .i64 0)), (.con (.int .i64 0)), (.con (.int .i64 0)), (.con (.int .i64 0)), (.con (.int .i64 0)), (.con (.int .i64 0)), (.con (.int .i64 0)), (.con (.int .i64 0))], [(.fn 195 []), i3, i4, i5, i6, i7, i8, i9, i10]] (.agg [i23, i24])
  (Q (.agg [(.fn 164 []), i3, i4, i5, i6, i23, i24, i9, i10]) [[(.fn 164 []), i3, i4, i5, i6, i23, i24, i9, i10], [(.fn 164 []), i3, i4, i5, i6, i23, i24, i9, i10]]))
  (br (((i1 : Int) == 8))
  (∃ i25 : Int, ∃ i26 : Int, CallN Tryz.prog 166 [(.con (.int .i64 1))] [[(.con .nilFunc), (.con (.int .i64 0)), (.con (.int .i64 0)), (.con (.int .i64 0)), (.con (.int .i64 0)), (.con (.int .i64 0)), (.con (.int .i64 0)), (.con (.int .i64 0)), (.con (.int .i64 0))], [(.fn 195 []), i3, i4, i5, i6, i7, i8, i9, i10]] (.agg [i25, i26])
  (∃ i27 : Int, ∃ i28 : Int, CallN Tryz.prog 33 [(.con (.int .i64 1)), (.con (.int .i64 32))] [[(.con .nilFunc), (.con (.int .i64 0)), (.con (.int .i64 0)), (.con (.int .i64 0)), (.con (.int .i64 0)), (.con (.int .i64 0)), (.con (.int .i64 0)), (.con (.int .i64 0)), (.con (.int .i64 0))], [(.fn 195 []), i3, i4, i5, i6, i7, i8, i9, i10]] (.agg [i27, i28])
  (Q (.agg [(.fn 164 []), i3, i4, i5, i6, i25, i26, i27, i28]) [[(.fn 164 []), i3, i4, i5, i6, i25, i26, i27, i28], [(.fn 164 []), i3, i4, i5, i6, i25, i26, i27, i28]])))
  (br (((i1 : Int) == 9))
  (∃ i29 : Int, ∃ i30 : Int, CallN Tryz.prog 33 [(.con (.int .i64 0)), (.con (.int .i64 11))] [[(.con .nilFunc), (.con (.int .i64 0)), (.con (.int .i64 0)), (.con (.int .i64 0)), (.con (.int .i64 0)), (.con (.int .i64 0)), (.con (.int .i64 0)), (.con (.int .i64 0)), (.con (.int .i64 0))], [(.fn 195 []), i3, i4, i5, i6, i7, i8, i9, i10]] (.agg [i29, i30])
  (∃ i31 : Int, CallN Tryz.prog 167 [i2] [[(.con .nilFunc), (.con (.int .i64 0)), (.con (.int .i64 0)), (.con (.int .i64 0)), (.con (.int .i64 0)), (.con (.int .i64 0)), (.con (.int .i64 0)), (.con (.int .i64 0)), (.con (.int .i64 0))], [(.fn 195 []), i3, i4, i5, i6, i7, i8, i9, i10]] i31
  (∃ i32 : Int, ∃ i33 : Int, CallN Tryz.prog 166 [i31] [[(.con .nilFunc), (.con (.int .i64 0)), (.con (.int .i64 0)), (.con (.int .i64 0)), (.con (.int .i64 0)), (.con (.int .i64 0)), (.con (.int .i64 0)), (.con (.int .i64 0)), (.con (.int .i64 0))], [(.fn 195 []), i3, i4, i5, i6, i7, i8, i9, i10]] (.agg [i32, i33])
  (Q (.agg [(.fn 164 []), i29, i30, i5, i6, i32, i33, i9, i10]) [[(.fn 164 []), i29, i30, i5, i6, i32, i33, i9, i10], [(.fn 164 []), i29, i30, i5, i6, i32, i33, i9, i10]]))))
  (br (((i1 : Int) == 10))
  (∃ i34 : Int, ∃ i35 : Int, CallN Tryz.prog 33 [(.con (.int .i64 0)), (.con (.int .i64 1000))] [[(.con .nilFunc), (.con (.int .i64 0)), (.con (.int .i64 0)), (.con (.int .i64 0)), (.con (.int .i64 0)), (.con (.int .i64 0)), (.con (.int .i64 0)), (.con (.int .i64 0)), (.con (.int .i64 0))], [(.fn 195 []), i3, i4, i5, i6, i7, i8, i9, i10]] (.agg [i34, i35])
  (∃ i36 : Int, ∃ i37 : Int, CallN Tryz.prog 166 [(.con (.int .i64 2))] [[(.con .nilFunc), (.con (.int .i64 0)), (.con (.int .i64 0)), (.con (.int .i64 0)), (.con (.int .i64 0)), (.con (.int .i64 0)), (.con (.int .i64 0)), (.con (.int .i64 0)), (.con (.int .i64 0))], [(.fn 195 []), i3, i4, i5, i6, i7, i8, i9, i10]] (.agg [i36, i37])
  (Q (.agg [(.fn 92 []), i34, i35, i5, i6, i36, i37, i9, i10]) [[(.fn 92 []), i34, i35, i5, i6, i36, i37, i9, i10], [(.fn 92 []), i34, i35, i5, i6, i36, i37, i9, i10]])))
  (Q (.agg [(.fn 195 []), i3, i4, i5, i6, i7, i8, i9, i10]) [[(.fn 195 []), i3, i4, i5, i6, i7, i8, i9, i10], [(.fn 195 []), i3, i4, i5, i6, i7, i8, i9, i10]]))))))))))))
theorem a100 (i1 i2 : Int) (Q : PV → Heap → Prop) (h : p100 i1 i2 Q) : ACalls Tryz.prog 100 [i1, i2] [] Q := by
  have hb : Option.some (bodyOf Tryz.f100) = Tryz.f100.body := by kernel_rfl
  exact acalls_eq (S := S) (L := loops100) mixed tok Tryz.func100 hb.symm (by kernel_rfl) h
def loops111a (id : Nat) : Option (List Nat × List (Nat × Sh)) := none
def p111a (l1 : List (List PV)) (i2 : Int) (Q : PV → Heap → Prop) : Prop :=
∃ b3 : Bool, CallN Tryz.prog 173 [l1, (.con (.bool true)), (.fn 174 [(.ept [(.fn 112 [(.ept [i2] 0)])] 0)])] [[]] b3
  (Q b3 [[]])
theorem a111a (l1 : List (List PV)) (i2 : Int) (Q : PV → Heap → Prop) (h : p111a l1 i2 Q) : ACalls Tryz.prog 111 [l1, (.fn 112 [(.ept [i2] 0)])] [] Q := by
  have hb : Option.some (bodyOf Tryz.f111) = Tryz.f111.body := by kernel_rfl
  exact acalls_eq (S := S) (L := loops111a) mixed tok Tryz.func111 hb.symm (by kernel_rfl) h
def loops173a (id : Nat) : Option (List Nat × List (Nat × Sh)) := match Nat.beq id 2 with | true => some ([2, 9, 10], [(1, .bool), (11, .int .i64)]) | false => none
def p173a (l1 : List (List PV)) (b2 : Bool) (i3 : Int) (Q : PV → Heap → Prop) : Prop :=
∃ I4 : Nat → ((Bool) × (Int) × Unit) → Prop, (∃ n, I4 n (b2, 0, ())) ∧ ∀ (n5 : Nat) (v6 : (Bool) × (Int) × Unit), I4 n5 v6 →
  (br ((decide ((v6.2.1 : Int) < (List.length l1 : Int))))
  (∃ i7 : Int, ∃ s8 : ByteArray, ∃ l9 : List (List PV), IdxN l1 v6.2.1 [i7, s8, l9]
  (∃ b10 : Bool, CallN Tryz.prog 174 [v6.1, v6.2.1, (.agg [i7, s8, l9]), (.ept [(.fn 112 [(.ept [i3] 0)])] 0)] [[i7, s8, l9]] b10
  ((@Eq PV (.fn 174 [(.ept [(.fn 112 [(.ept [i3] 0)])] 0)]) (.fn 174 [(.ept [(.fn 112 [(.ept [i3] 0)])] 0)]) ∧ @Eq PV l1 l1 ∧ @Eq PV (.con (.int .i64 (List.length l1 : Int))) (.con (.int .i64 (List.length l1 : Int))) ∧ True) ∧ @Eq Heap [] [] ∧ ∃ k11, k11 < n5 ∧ I4 k11 (b10, (IntKind.wrap .i64 (v6.2.1 + 1)), ()))))
  (Q v6.1 []))
theorem a173a (l1 : List (List PV)) (b2 : Bool) (i3 : Int) (Q : PV → Heap → Prop) (h : p173a l1 b2 i3 Q) : ACalls Tryz.prog 173 [l1, b2, (.fn 174 [(.ept [(.fn 112 [(.ept [i3] 0)])] 0)])] [] Q := by
  have hb : Option.some (bodyOf Tryz.f173) = Tryz.f173.body := by kernel_rfl
  exact acalls_eq (S := S) (L := loops173a) mixed tok Tryz.func173 hb.symm (by kernel_rfl) h
def loops174a (id : Nat) : Option (List Nat × List (Nat × Sh)) := none
def p174a (b1 : Bool) (i2 i3 : Int) (s4 : ByteArray) (l5 : List (List PV)) (i6 : Int) (Q : PV → Heap → Prop) : Prop :=
br (b1)
  (∃ b7 : Bool, CallN Tryz.prog 112 [(.agg [i3, s4, l5]), (.ept [i6] 0)] [[i3, s4, l5]] b7
  (Q b7 [[i3, s4, l5]]))
  (Q (.con (.bool false)) [[i3, s4, l5]])
theorem a174a (b1 : Bool) (i2 i3 : Int) (s4 : ByteArray) (l5 : List (List PV)) (i6 : Int) (Q : PV → Heap → Prop) (h : p174a b1 i2 i3 s4 l5 i6 Q) : ACalls Tryz.prog 174 [b1, i2, (.agg [i3, s4, l5]), (.ept [(.fn 112 [(.ept [i6] 0)])] 0)] [] Q := by
  have hb : Option.some (bodyOf Tryz.f174) = Tryz.f174.body := by kernel_rfl
  exact acalls_eq (S := S) (L := loops174a) mixed tok Tryz.func174 hb.symm (by kernel_rfl) h
def loops111b (id : Nat) : Option (List Nat × List (Nat × Sh)) := none
def p111b (l1 : List (List PV)) (Q : PV → Heap → Prop) : Prop :=
∃ b2 : Bool, CallN Tryz.prog 173 [l1, (.con (.bool true)), (.fn 174 [(.ept [(.fn 18 [])] 0)])] [[]] b2
  (Q b2 [[]])
theorem a111b (l1 : List (List PV)) (Q : PV → Heap → Prop) (h : p111b l1 Q) : ACalls Tryz.prog 111 [l1, (.fn 18 [])] [] Q := by
  have hb : Option.some (bodyOf Tryz.f111) = Tryz.f111.body := by kernel_rfl
  exact acalls_eq (S := S) (L := loops111b) mixed tok Tryz.func111 hb.symm (by kernel_rfl) h
def loops173b (id : Nat) : Option (List Nat × List (Nat × Sh)) := match Nat.beq id 2 with | true => some ([2, 9, 10], [(1, .bool), (11, .int .i64)]) | false => none
def p173b (l1 : List (List PV)) (b2 : Bool) (Q : PV → Heap → Prop) : Prop :=
∃ I3 : Nat → ((Bool) × (Int) × Unit) → Prop, (∃ n, I3 n (b2, 0, ())) ∧ ∀ (n4 : Nat) (v5 : (Bool) × (Int) × Unit), I3 n4 v5 →
  (br ((decide ((v5.2.1 : Int) < (List.length l1 : Int))))
  (∃ i6 : Int, ∃ s7 : ByteArray, ∃ l8 : List (List PV), IdxN l1 v5.2.1 [i6, s7, l8]
  (∃ b9 : Bool, CallN Tryz.prog 174 [v5.1, v5.2.1, (.agg [i6, s7, l8]), (.ept [(.fn 18 [])] 0)] [[i6, s7, l8]] b9
  ((@Eq PV (.fn 174 [(.ept [(.fn 18 [])] 0)]) (.fn 174 [(.ept [(.fn 18 [])] 0)]) ∧ @Eq PV l1 l1 ∧ @Eq PV (.con (.int .i64 (List.length l1 : Int))) (.con (.int .i64 (List.length l1 : Int))) ∧ True) ∧ @Eq Heap [] [] ∧ ∃ k10, k10 < n4 ∧ I3 k10 (b9, (IntKind.wrap .i64 (v5.2.1 + 1)), ()))))
  (Q v5.1 []))
theorem a173b (l1 : List (List PV)) (b2 : Bool) (Q : PV → Heap → Prop) (h : p173b l1 b2 Q) : ACalls Tryz.prog 173 [l1, b2, (.fn 174 [(.ept [(.fn 18 [])] 0)])] [] Q := by
  have hb : Option.some (bodyOf Tryz.f173) = Tryz.f173.body := by kernel_rfl
  exact acalls_eq (S := S) (L := loops173b) mixed tok Tryz.func173 hb.symm (by kernel_rfl) h
def loops174b (id : Nat) : Option (List Nat × List (Nat × Sh)) := none
def p174b (b1 : Bool) (i2 i3 : Int) (s4 : ByteArray) (l5 : List (List PV)) (Q : PV → Heap → Prop) : Prop :=
br (b1)
  (∃ b6 : Bool, CallN Tryz.prog 18 [(.agg [i3, s4, l5])] [[i3, s4, l5]] b6
  (Q b6 [[i3, s4, l5]]))
  (Q (.con (.bool false)) [[i3, s4, l5]])
theorem a174b (b1 : Bool) (i2 i3 : Int) (s4 : ByteArray) (l5 : List (List PV)) (Q : PV → Heap → Prop) (h : p174b b1 i2 i3 s4 l5 Q) : ACalls Tryz.prog 174 [b1, i2, (.agg [i3, s4, l5]), (.ept [(.fn 18 [])] 0)] [] Q := by
  have hb : Option.some (bodyOf Tryz.f174) = Tryz.f174.body := by kernel_rfl
  exact acalls_eq (S := S) (L := loops174b) mixed tok Tryz.func174 hb.symm (by kernel_rfl) h
def loops107c (id : Nat) : Option (List Nat × List (Nat × Sh)) := none
def p107c (l1 : List (List PV)) (i2 : Int) (Q : PV → Heap → Prop) : Prop :=
∃ b3 : Bool, CallN Tryz.prog 171 [l1, (.con (.bool true)), (.fn 172 [(.ept [(.fn 108 [(.ept [i2] 0)])] 0)])] [[]] b3
  (Q b3 [[]])
theorem a107c (l1 : List (List PV)) (i2 : Int) (Q : PV → Heap → Prop) (h : p107c l1 i2 Q) : ACalls Tryz.prog 107 [l1, (.fn 108 [(.ept [i2] 0)])] [] Q := by
  have hb : Option.some (bodyOf Tryz.f107) = Tryz.f107.body := by kernel_rfl
  exact acalls_eq (S := S) (L := loops107c) mixed tok Tryz.func107 hb.symm (by kernel_rfl) h
def loops171c (id : Nat) : Option (List Nat × List (Nat × Sh)) := match Nat.beq id 2 with | true => some ([2, 9, 10], [(1, .bool), (11, .int .i64)]) | false => none
def p171c (l1 : List (List PV)) (b2 : Bool) (i3 : Int) (Q : PV → Heap → Prop) : Prop :=
∃ I4 : Nat → ((Bool) × (Int) × Unit) → Prop, (∃ n, I4 n (b2, 0, ())) ∧ ∀ (n5 : Nat) (v6 : (Bool) × (Int) × Unit), I4 n5 v6 →
  (br ((decide ((v6.2.1 : Int) < (List.length l1 : Int))))
  (∃ i7 : Int, ∃ i8 : Int, ∃ i9 : Int, ∃ s10 : ByteArray, ∃ i11 : Int, ∃ l12 : List (List PV), IdxN l1 v6.2.1 [i7, i8, i9, s10, i11, l12]
  (∃ b13 : Bool, CallN Tryz.prog 172 [v6.1, v6.2.1, (.agg [i7, i8, i9, s10, i11, l12]), (.ept [(.fn 108 [(.ept [i3] 0)])] 0)] [[i7, i8, i9, s10, i11, l12]] b13
  ((@Eq PV (.fn 172 [(.ept [(.fn 108 [(.ept [i3] 0)])] 0)]) (.fn 172 [(.ept [(.fn 108 [(.ept [i3] 0)])] 0)]) ∧ @Eq PV l1 l1 ∧ @Eq PV (.con (.int .i64 (List.length l1 : Int))) (.con (.int .i64 (List.length l1 : Int))) ∧ True) ∧ @Eq Heap [] [] ∧ ∃ k14, k14 < n5 ∧ I4 k14 (b13, (IntKind.wrap .i64 (v6.2.1 + 1)), ()))))
  (Q v6.1 []))
theorem a171c (l1 : List (List PV)) (b2 : Bool) (i3 : Int) (Q : PV → Heap → Prop) (h : p171c l1 b2 i3 Q) : ACalls Tryz.prog 171 [l1, b2, (.fn 172 [(.ept [(.fn 108 [(.ept [i3] 0)])] 0)])] [] Q := by
  have hb : Option.some (bodyOf Tryz.f171) = Tryz.f171.body := by kernel_rfl
  exact acalls_eq (S := S) (L := loops171c) mixed tok Tryz.func171 hb.symm (by kernel_rfl) h
def loops172c (id : Nat) : Option (List Nat × List (Nat × Sh)) := none
def p172c (b1 : Bool) (i2 i3 i4 i5 : Int) (s6 : ByteArray) (i7 : Int) (l8 : List (List PV)) (i9 : Int) (Q : PV → Heap → Prop) : Prop :=
br (b1)
  (∃ b10 : Bool, CallN Tryz.prog 108 [(.agg [i3, i4, i5, s6, i7, l8]), (.ept [i9] 0)] [[i3, i4, i5, s6, i7, l8]] b10
  (Q b10 [[i3, i4, i5, s6, i7, l8]]))
  (Q (.con (.bool false)) [[i3, i4, i5, s6, i7, l8]])
theorem a172c (b1 : Bool) (i2 i3 i4 i5 : Int) (s6 : ByteArray) (i7 : Int) (l8 : List (List PV)) (i9 : Int) (Q : PV → Heap → Prop) (h : p172c b1 i2 i3 i4 i5 s6 i7 l8 i9 Q) : ACalls Tryz.prog 172 [b1, i2, (.agg [i3, i4, i5, s6, i7, l8]), (.ept [(.fn 108 [(.ept [i9] 0)])] 0)] [] Q := by
  have hb : Option.some (bodyOf Tryz.f172) = Tryz.f172.body := by kernel_rfl
  exact acalls_eq (S := S) (L := loops172c) mixed tok Tryz.func172 hb.symm (by kernel_rfl) h
def loops101d (id : Nat) : Option (List Nat × List (Nat × Sh)) := none
def p101d (l1 : List (List PV)) (i2 : Int) (Q : PV → Heap → Prop) : Prop :=
∃ b3 : Bool, CallN Tryz.prog 149 [l1, (.con (.bool true)), (.fn 168 [(.ept [(.fn 102 [(.ept [i2] 0)])] 0)])] [[]] b3
  (Q b3 [[]])
theorem a101d (l1 : List (List PV)) (i2 : Int) (Q : PV → Heap → Prop) (h : p101d l1 i2 Q) : ACalls Tryz.prog 101 [l1, (.fn 102 [(.ept [i2] 0)])] [] Q := by
  have hb : Option.some (bodyOf Tryz.f101) = Tryz.f101.body := by kernel_rfl
  exact acalls_eq (S := S) (L := loops101d) mixed tok Tryz.func101 hb.symm (by kernel_rfl) h
def loops149d (id : Nat) : Option (List Nat × List (Nat × Sh)) := match Nat.beq id 2 with | true => some ([2, 9, 10], [(1, .bool), (11, .int .i64)]) | false => none
def p149d (l1 : List (List PV)) (b2 : Bool) (i3 : Int) (Q : PV → Heap → Prop) : Prop :=
∃ I4 : Nat → ((Bool) × (Int) × Unit) → Prop, (∃ n, I4 n (b2, 0, ())) ∧ ∀ (n5 : Nat) (v6 : (Bool) × (Int) × Unit), I4 n5 v6 →
  (br ((decide ((v6.2.1 : Int) < (List.length l1 : Int))))
  (∃ i7 : Int, ∃ i8 : Int, ∃ i9 : Int, ∃ i10 : Int, ∃ l11 : List (List PV), ∃ s12 : ByteArray, ∃ l13 : List (List PV), ∃ l14 : List (List PV), IdxN l1 v6.2.1 [i7, i8, i9, i10, l11, s12, l13, l14]
  (∃ b15 : Bool, CallN Tryz.prog 168 [v6.1, v6.2.1, (.agg [i7, i8, i9, i10, l11, s12, l13, l14]), (.ept [(.fn 102 [(.ept [i3] 0)])] 0)] [[i7, i8, i9, i10, l11, s12, l13, l14]] b15
  ((@Eq PV (.fn 168 [(.ept [(.fn 102 [(.ept [i3] 0)])] 0)]) (.fn 168 [(.ept [(.fn 102 [(.ept [i3] 0)])] 0)]) ∧ @Eq PV l1 l1 ∧ @Eq PV (.con (.int .i64 (List.length l1 : Int))) (.con (.int .i64 (List.length l1 : Int))) ∧ True) ∧ @Eq Heap [] [] ∧ ∃ k16, k16 < n5 ∧ I4 k16 (b15, (IntKind.wrap .i64 (v6.2.1 + 1)), ()))))
  (Q v6.1 []))
theorem a149d (l1 : List (List PV)) (b2 : Bool) (i3 : Int) (Q : PV → Heap → Prop) (h : p149d l1 b2 i3 Q) : ACalls Tryz.prog 149 [l1, b2, (.fn 168 [(.ept [(.fn 102 [(.ept [i3] 0)])] 0)])] [] Q := by
  have hb : Option.some (bodyOf Tryz.f149) = Tryz.f149.body := by kernel_rfl
  exact acalls_eq (S := S) (L := loops149d) mixed tok Tryz.func149 hb.symm (by kernel_rfl) h
def loops168d (id : Nat) : Option (List Nat × List (Nat × Sh)) := none
def p168d (b1 : Bool) (i2 i3 i4 i5 i6 : Int) (l7 : List (List PV)) (s8 : ByteArray) (l9 l10 : List (List PV)) (i11 : Int) (Q : PV → Heap → Prop) : Prop :=
br (b1)
  (∃ b12 : Bool, CallN Tryz.prog 102 [(.agg [i3, i4, i5, i6, l7, s8, l9, l10]), (.ept [i11] 0)] [[i3, i4, i5, i6, l7, s8, l9, l10]] b12
  (Q b12 [[i3, i4, i5, i6, l7, s8, l9, l10]]))
  (Q (.con (.bool false)) [[i3, i4, i5, i6, l7, s8, l9, l10]])
theorem a168d (b1 : Bool) (i2 i3 i4 i5 i6 : Int) (l7 : List (List PV)) (s8 : ByteArray) (l9 l10 : List (List PV)) (i11 : Int) (Q : PV → Heap → Prop) (h : p168d b1 i2 i3 i4 i5 i6 l7 s8 l9 l10 i11 Q) : ACalls Tryz.prog 168 [b1, i2, (.agg [i3, i4, i5, i6, l7, s8, l9, l10]), (.ept [(.fn 102 [(.ept [i11] 0)])] 0)] [] Q := by
  have hb : Option.some (bodyOf Tryz.f168) = Tryz.f168.body := by kernel_rfl
  exact acalls_eq (S := S) (L := loops168d) mixed tok Tryz.func168 hb.symm (by kernel_rfl) h
def loops103e (id : Nat) : Option (List Nat × List (Nat × Sh)) := none
def p103e (l1 : List (List PV)) (i2 : Int) (Q : PV → Heap → Prop) : Prop :=
∃ b3 : Bool, CallN Tryz.prog 151 [l1, (.con (.bool true)), (.fn 169 [(.ept [(.fn 104 [(.ept [i2] 0)])] 0)])] [[]] b3
  (Q b3 [[]])
theorem a103e (l1 : List (List PV)) (i2 : Int) (Q : PV → Heap → Prop) (h : p103e l1 i2 Q) : ACalls Tryz.prog 103 [l1, (.fn 104 [(.ept [i2] 0)])] [] Q := by
  have hb : Option.some (bodyOf Tryz.f103) = Tryz.f103.body := by kernel_rfl
  exact acalls_eq (S := S) (L := loops103e) mixed tok Tryz.func103 hb.symm (by kernel_rfl) h
def loops151e (id : Nat) : Option (List Nat × List (Nat × Sh)) := match Nat.beq id 2 with | true => some ([2, 9, 10], [(1, .bool), (11, .int .i64)]) | false => none
def p151e (l1 : List (List PV)) (b2 : Bool) (i3 : Int) (Q : PV → Heap → Prop) : Prop :=
∃ I4 : Nat → ((Bool) × (Int) × Unit) → Prop, (∃ n, I4 n (b2, 0, ())) ∧ ∀ (n5 : Nat) (v6 : (Bool) × (Int) × Unit), I4 n5 v6 →
  (br ((decide ((v6.2.1 : Int) < (List.length l1 : Int))))
  (∃ i7 : Int, ∃ i8 : Int, ∃ i9 : Int, ∃ s10 : ByteArray, ∃ i11 : Int, ∃ l12 : List (List PV), ∃ i13 : Int, ∃ i14 : Int, ∃ i15 : Int, ∃ i16 : Int, ∃ l17 : List (List PV), ∃ s18 : ByteArray, ∃ l19 : List (List PV), ∃ l20 : List (List PV), IdxN l1 v6.2.1 [i7, i8, i9, s10, i11, l12, i13, i14, i15, i16, l17, s18, l19, l20]
  (∃ b21 : Bool, CallN Tryz.prog 169 [v6.1, v6.2.1, (.agg [i7, i8, i9, s10, i11, l12, i13, i14, i15, i16, l17, s18, l19, l20]), (.ept [(.fn 104 [(.ept [i3] 0)])] 0)] [[i7, i8, i9, s10, i11, l12, i13, i14, i15, i16, l17, s18, l19, l20]] b21
  ((@Eq PV (.fn 169 [(.ept [(.fn 104 [(.ept [i3] 0)])] 0)]) (.fn 169 [(.ept [(.fn 104 [(.ept [i3] 0)])] 0)]) ∧ @Eq PV l1 l1 ∧ @Eq PV (.con (.int .i64 (List.length l1 : Int))) (.con (.int .i64 (List.length l1 : Int))) ∧ True) ∧ @Eq Heap [] [] ∧ ∃ k22, k22 < n5 ∧ I4 k22 (b21, (IntKind.wrap .i64 (v6.2.1 + 1)), ()))))
  (Q v6.1 []))
theorem a151e (l1 : List (List PV)) (b2 : Bool) (i3 : Int) (Q : PV → Heap → Prop) (h : p151e l1 b2 i3 Q) : ACalls Tryz.prog 151 [l1, b2, (.fn 169 [(.ept [(.fn 104 [(.ept [i3] 0)])] 0)])] [] Q := by
  have hb : Option.some (bodyOf Tryz.f151) = Tryz.f151.body := by kernel_rfl
  exact acalls_eq (S := S) (L := loops151e) mixed tok Tryz.func151 hb.symm (by kernel_rfl) h
def loops169e (id : Nat) : Option (List Nat × List (Nat × Sh)) := none
def p169e (b1 : Bool) (i2 i3 i4 i5 : Int) (s6 : ByteArray) (i7 : Int) (l8 : List (List PV)) (i9 i10 i11 i12 : Int) (l13 : List (List PV)) (s14 : ByteArray) (l15 l16 : List (List PV)) (i17 : Int) (Q : PV → Heap → Prop) : Prop :=
br (b1)
  (∃ b18 : Bool, CallN Tryz.prog 104 [(.agg [i3, i4, i5, s6, i7, l8, i9, i10, i11, i12, l13, s14, l15, l16]), (.ept [i17] 0)] [[i3, i4, i5, s6, i7, l8, i9, i10, i11, i12, l13, s14, l15, l16]] b18
  (Q b18 [[i3, i4, i5, s6, i7, l8, i9, i10, i11, i12, l13, s14, l15, l16]]))
  (Q (.con (.bool false)) [[i3, i4, i5, s6, i7, l8, i9, i10, i11, i12, l13, s14, l15, l16]])
theorem a169e (b1 : Bool) (i2 i3 i4 i5 : Int) (s6 : ByteArray) (i7 : Int) (l8 : List (List PV)) (i9 i10 i11 i12 : Int) (l13 : List (List PV)) (s14 : ByteArray) (l15 l16 : List (List PV)) (i17 : Int) (Q : PV → Heap → Prop) (h : p169e b1 i2 i3 i4 i5 s6 i7 l8 i9 i10 i11 i12 l13 s14 l15 l16 i17 Q) : ACalls Tryz.prog 169 [b1, i2, (.agg [i3, i4, i5, s6, i7, l8, i9, i10, i11, i12, l13, s14, l15, l16]), (.ept [(.fn 104 [(.ept [i17] 0)])] 0)] [] Q := by
  have hb : Option.some (bodyOf Tryz.f169) = Tryz.f169.body := by kernel_rfl
  exact acalls_eq (S := S) (L := loops169e) mixed tok Tryz.func169 hb.symm (by kernel_rfl) h
def loops83f (id : Nat) : Option (List Nat × List (Nat × Sh)) := none
def p83f (l1 : List (List PV)) (Q : PV → Heap → Prop) : Prop :=
∃ b2 : Bool, CallN Tryz.prog 154 [l1, (.con (.bool true)), (.fn 155 [(.ept [(.fn 84 [])] 0)])] [[]] b2
  (Q b2 [[]])
theorem a83f (l1 : List (List PV)) (Q : PV → Heap → Prop) (h : p83f l1 Q) : ACalls Tryz.prog 83 [l1, (.fn 84 [])] [] Q := by
  have hb : Option.some (bodyOf Tryz.f83) = Tryz.f83.body := by kernel_rfl
  exact acalls_eq (S := S) (L := loops83f) mixed tok Tryz.func83 hb.symm (by kernel_rfl) h
def loops154f (id : Nat) : Option (List Nat × List (Nat × Sh)) := match Nat.beq id 2 with | true => some ([2, 9, 10], [(1, .bool), (11, .int .i64)]) | false => none
def p154f (l1 : List (List PV)) (b2 : Bool) (Q : PV → Heap → Prop) : Prop :=
∃ I3 : Nat → ((Bool) × (Int) × Unit) → Prop, (∃ n, I3 n (b2, 0, ())) ∧ ∀ (n4 : Nat) (v5 : (Bool) × (Int) × Unit), I3 n4 v5 →
  (br ((decide ((v5.2.1 : Int) < (List.length l1 : Int))))
  (∃ s6 : ByteArray, ∃ l7 : List (List PV), IdxN l1 v5.2.1 [s6, l7]
  (∃ b8 : Bool, CallN Tryz.prog 155 [v5.1, v5.2.1, (.agg [s6, l7]), (.ept [(.fn 84 [])] 0)] [[s6, l7]] b8
  ((@Eq PV (.fn 155 [(.ept [(.fn 84 [])] 0)]) (.fn 155 [(.ept [(.fn 84 [])] 0)]) ∧ @Eq PV l1 l1 ∧ @Eq PV (.con (.int .i64 (List.length l1 : Int))) (.con (.int .i64 (List.length l1 : Int))) ∧ True) ∧ @Eq Heap [] [] ∧ ∃ k9, k9 < n4 ∧ I3 k9 (b8, (IntKind.wrap .i64 (v5.2.1 + 1)), ()))))
  (Q v5.1 []))
theorem a154f (l1 : List (List PV)) (b2 : Bool) (Q : PV → Heap → Prop) (h : p154f l1 b2 Q) : ACalls Tryz.prog 154 [l1, b2, (.fn 155 [(.ept [(.fn 84 [])] 0)])] [] Q := by
  have hb : Option.some (bodyOf Tryz.f154) = Tryz.f154.body := by kernel_rfl
  exact acalls_eq (S := S) (L := loops154f) mixed tok Tryz.func154 hb.symm (by kernel_rfl) h
def loops155f (id : Nat) : Option (List Nat × List (Nat × Sh)) := none
def p155f (b1 : Bool) (i2 : Int) (s3 : ByteArray) (l4 : List (List PV)) (Q : PV → Heap → Prop) : Prop :=
br (b1)
  (∃ b5 : Bool, CallN Tryz.prog 84 [(.agg [s3, l4])] [[s3, l4]] b5
  (Q b5 [[s3, l4]]))
  (Q (.con (.bool false)) [[s3, l4]])
theorem a155f (b1 : Bool) (i2 : Int) (s3 : ByteArray) (l4 : List (List PV)) (Q : PV → Heap → Prop) (h : p155f b1 i2 s3 l4 Q) : ACalls Tryz.prog 155 [b1, i2, (.agg [s3, l4]), (.ept [(.fn 84 [])] 0)] [] Q := by
  have hb : Option.some (bodyOf Tryz.f155) = Tryz.f155.body := by kernel_rfl
  exact acalls_eq (S := S) (L := loops155f) mixed tok Tryz.func155 hb.symm (by kernel_rfl) h
def loops35g (id : Nat) : Option (List Nat × List (Nat × Sh)) := none
def p35g (l1 : List (List PV)) (Q : PV → Heap → Prop) : Prop :=
∃ b2 : Bool, CallN Tryz.prog 80 [l1, (.con (.bool true)), (.fn 81 [(.ept [(.fn 36 [])] 0)])] [[]] b2
  (Q b2 [[]])
theorem a35g (l1 : List (List PV)) (Q : PV → Heap → Prop) (h : p35g l1 Q) : ACalls Tryz.prog 35 [l1, (.fn 36 [])] [] Q := by
  have hb : Option.some (bodyOf Tryz.f35) = Tryz.f35.body := by kernel_rfl
  exact acalls_eq (S := S) (L := loops35g) mixed tok Tryz.func35 hb.symm (by kernel_rfl) h
def loops80g (id : Nat) : Option (List Nat × List (Nat × Sh)) := match Nat.beq id 2 with | true => some ([2, 9, 10], [(1, .bool), (11, .int .i64)]) | false => none
def p80g (l1 : List (List PV)) (b2 : Bool) (Q : PV → Heap → Prop) : Prop :=
∃ I3 : Nat → ((Bool) × (Int) × Unit) → Prop, (∃ n, I3 n (b2, 0, ())) ∧ ∀ (n4 : Nat) (v5 : (Bool) × (Int) × Unit), I3 n4 v5 →
  (br ((decide ((v5.2.1 : Int) < (List.length l1 : Int))))
  (∃ i6 : Int, ∃ i7 : Int, ∃ s8 : ByteArray, ∃ l9 : List (List PV), IdxN l1 v5.2.1 [i6, i7, s8, l9]
  (∃ b10 : Bool, CallN Tryz.prog 81 [v5.1, v5.2.1, (.agg [i6, i7, s8, l9]), (.ept [(.fn 36 [])] 0)] [[i6, i7, s8, l9]] b10
  ((@Eq PV (.fn 81 [(.ept [(.fn 36 [])] 0)]) (.fn 81 [(.ept [(.fn 36 [])] 0)]) ∧ @Eq PV l1 l1 ∧ @Eq PV (.con (.int .i64 (List.length l1 : Int))) (.con (.int .i64 (List.length l1 : Int))) ∧ True) ∧ @Eq Heap [] [] ∧ ∃ k11, k11 < n4 ∧ I3 k11 (b10, (IntKind.wrap .i64 (v5.2.1 + 1)), ()))))
  (Q v5.1 []))
theorem a80g (l1 : List (List PV)) (b2 : Bool) (Q : PV → Heap → Prop) (h : p80g l1 b2 Q) : ACalls Tryz.prog 80 [l1, b2, (.fn 81 [(.ept [(.fn 36 [])] 0)])] [] Q := by
  have hb : Option.some (bodyOf Tryz.f80) = Tryz.f80.body := by kernel_rfl
  exact acalls_eq (S := S) (L := loops80g) mixed tok Tryz.func80 hb.symm (by kernel_rfl) h
def loops81g (id : Nat) : Option (List Nat × List (Nat × Sh)) := none
def p81g (b1 : Bool) (i2 i3 i4 : Int) (s5 : ByteArray) (l6 : List (List PV)) (Q : PV → Heap → Prop) : Prop :=
br (b1)
  (∃ b7 : Bool, CallN Tryz.prog 36 [(.agg [i3, i4, s5, l6])] [[i3, i4, s5, l6]] b7
  (Q b7 [[i3, i4, s5, l6]]))
  (Q (.con (.bool false)) [[i3, i4, s5, l6]])
theorem a81g (b1 : Bool) (i2 i3 i4 : Int) (s5 : ByteArray) (l6 : List (List PV)) (Q : PV → Heap → Prop) (h : p81g b1 i2 i3 i4 s5 l6 Q) : ACalls Tryz.prog 81 [b1, i2, (.agg [i3, i4, s5, l6]), (.ept [(.fn 36 [])] 0)] [] Q := by
  have hb : Option.some (bodyOf Tryz.f81) = Tryz.f81.body := by kernel_rfl
  exact acalls_eq (S := S) (L := loops81g) mixed tok Tryz.func81 hb.symm (by kernel_rfl) h
def loops88h (id : Nat) : Option (List Nat × List (Nat × Sh)) := none
def p88h (l1 : List (List PV)) (Q : PV → Heap → Prop) : Prop :=
∃ b2 : Bool, CallN Tryz.prog 157 [l1, (.con (.bool true)), (.fn 158 [(.ept [(.fn 89 [])] 0)])] [[]] b2
  (Q b2 [[]])
theorem a88h (l1 : List (List PV)) (Q : PV → Heap → Prop) (h : p88h l1 Q) : ACalls Tryz.prog 88 [l1, (.fn 89 [])] [] Q := by
  have hb : Option.some (bodyOf Tryz.f88) = Tryz.f88.body := by kernel_rfl
  exact acalls_eq (S := S) (L := loops88h) mixed tok Tryz.func88 hb.symm (by kernel_rfl) h
def loops157h (id : Nat) : Option (List Nat × List (Nat × Sh)) := match Nat.beq id 2 with | true => some ([2, 9, 10], [(1, .bool), (11, .int .i64)]) | false => none
def p157h (l1 : List (List PV)) (b2 : Bool) (Q : PV → Heap → Prop) : Prop :=
∃ I3 : Nat → ((Bool) × (Int) × Unit) → Prop, (∃ n, I3 n (b2, 0, ())) ∧ ∀ (n4 : Nat) (v5 : (Bool) × (Int) × Unit), I3 n4 v5 →
  (br ((decide ((v5.2.1 : Int) < (List.length l1 : Int))))
  (∃ s6 : ByteArray, ∃ i7 : Int, ∃ s8 : ByteArray, ∃ l9 : List (List PV), IdxN l1 v5.2.1 [s6, i7, s8, l9]
  (∃ b10 : Bool, CallN Tryz.prog 158 [v5.1, v5.2.1, (.agg [s6, i7, s8, l9]), (.ept [(.fn 89 [])] 0)] [[s6, i7, s8, l9]] b10
  ((@Eq PV (.fn 158 [(.ept [(.fn 89 [])] 0)]) (.fn 158 [(.ept [(.fn 89 [])] 0)]) ∧ @Eq PV l1 l1 ∧ @Eq PV (.con (.int .i64 (List.length l1 : Int))) (.con (.int .i64 (List.length l1 : Int))) ∧ True) ∧ @Eq Heap [] [] ∧ ∃ k11, k11 < n4 ∧ I3 k11 (b10, (IntKind.wrap .i64 (v5.2.1 + 1)), ()))))
  (Q v5.1 []))
theorem a157h (l1 : List (List PV)) (b2 : Bool) (Q : PV → Heap → Prop) (h : p157h l1 b2 Q) : ACalls Tryz.prog 157 [l1, b2, (.fn 158 [(.ept [(.fn 89 [])] 0)])] [] Q := by
  have hb : Option.some (bodyOf Tryz.f157) = Tryz.f157.body := by kernel_rfl
  exact acalls_eq (S := S) (L := loops157h) mixed tok Tryz.func157 hb.symm (by kernel_rfl) h
def loops158h (id : Nat) : Option (List Nat × List (Nat × Sh)) := none
def p158h (b1 : Bool) (i2 : Int) (s3 : ByteArray) (i4 : Int) (s5 : ByteArray) (l6 : List (List PV)) (Q : PV → Heap → Prop) : Prop :=
br (b1)
  (∃ b7 : Bool, CallN Tryz.prog 89 [(.agg [s3, i4, s5, l6])] [[s3, i4, s5, l6]] b7
  (Q b7 [[s3, i4, s5, l6]]))
  (Q (.con (.bool false)) [[s3, i4, s5, l6]])
theorem a158h (b1 : Bool) (i2 : Int) (s3 : ByteArray) (i4 : Int) (s5 : ByteArray) (l6 : List (List PV)) (Q : PV → Heap → Prop) (h : p158h b1 i2 s3 i4 s5 l6 Q) : ACalls Tryz.prog 158 [b1, i2, (.agg [s3, i4, s5, l6]), (.ept [(.fn 89 [])] 0)] [] Q := by
  have hb : Option.some (bodyOf Tryz.f158) = Tryz.f158.body := by kernel_rfl
  exact acalls_eq (S := S) (L := loops158h) mixed tok Tryz.func158 hb.symm (by kernel_rfl) h
def loops37i (id : Nat) : Option (List Nat × List (Nat × Sh)) := none
def p37i (l1 : List (List PV)) (Q : PV → Heap → Prop) : Prop :=
∃ b2 : Bool, CallN Tryz.prog 85 [l1, (.con (.bool true)), (.fn 86 [(.ept [(.fn 38 [])] 0)])] [[]] b2
  (Q b2 [[]])
theorem a37i (l1 : List (List PV)) (Q : PV → Heap → Prop) (h : p37i l1 Q) : ACalls Tryz.prog 37 [l1, (.fn 38 [])] [] Q := by
  have hb : Option.some (bodyOf Tryz.f37) = Tryz.f37.body := by kernel_rfl
  exact acalls_eq (S := S) (L := loops37i) mixed tok Tryz.func37 hb.symm (by kernel_rfl) h
def loops85i (id : Nat) : Option (List Nat × List (Nat × Sh)) := match Nat.beq id 2 with | true => some ([2, 9, 10], [(1, .bool), (11, .int .i64)]) | false => none
def p85i (l1 : List (List PV)) (b2 : Bool) (Q : PV → Heap → Prop) : Prop :=
∃ I3 : Nat → ((Bool) × (Int) × Unit) → Prop, (∃ n, I3 n (b2, 0, ())) ∧ ∀ (n4 : Nat) (v5 : (Bool) × (Int) × Unit), I3 n4 v5 →
  (br ((decide ((v5.2.1 : Int) < (List.length l1 : Int))))
  (∃ i6 : Int, ∃ i7 : Int, ∃ s8 : ByteArray, ∃ l9 : List (List PV), ∃ i10 : Int, ∃ s11 : ByteArray, ∃ l12 : List (List PV), ∃ i13 : Int, ∃ i14 : Int, ∃ i15 : Int, ∃ i16 : Int, ∃ l17 : List (List PV), ∃ s18 : ByteArray, ∃ l19 : List (List PV), ∃ l20 : List (List PV), IdxN l1 v5.2.1 [i6, i7, s8, l9, i10, s11, l12, i13, i14, i15, i16, l17, s18, l19, l20]
  (∃ b21 : Bool, CallN Tryz.prog 86 [v5.1, v5.2.1, (.agg [i6, i7, s8, l9, i10, s11, l12, i13, i14, i15, i16, l17, s18, l19, l20]), (.ept [(.fn 38 [])] 0)] [[i6, i7, s8, l9, i10, s11, l12, i13, i14, i15, i16, l17, s18, l19, l20]] b21
  ((@Eq PV (.fn 86 [(.ept [(.fn 38 [])] 0)]) (.fn 86 [(.ept [(.fn 38 [])] 0)]) ∧ @Eq PV l1 l1 ∧ @Eq PV (.con (.int .i64 (List.length l1 : Int))) (.con (.int .i64 (List.length l1 : Int))) ∧ True) ∧ @Eq Heap [] [] ∧ ∃ k22, k22 < n4 ∧ I3 k22 (b21, (IntKind.wrap .i64 (v5.2.1 + 1)), ()))))
  (Q v5.1 []))
theorem a85i (l1 : List (List PV)) (b2 : Bool) (Q : PV → Heap → Prop) (h : p85i l1 b2 Q) : ACalls Tryz.prog 85 [l1, b2, (.fn 86 [(.ept [(.fn 38 [])] 0)])] [] Q := by
  have hb : Option.some (bodyOf Tryz.f85) = Tryz.f85.body := by kernel_rfl
  exact acalls_eq (S := S) (L := loops85i) mixed tok Tryz.func85 hb.symm (by kernel_rfl) h
def loops86i (id : Nat) : Option (List Nat × List (Nat × Sh)) := none
def p86i (b1 : Bool) (i2 i3 i4 : Int) (s5 : ByteArray) (l6 : List (List PV)) (i7 : Int) (s8 : ByteArray) (l9 : List (List PV)) (i10 i11 i12 i13 : Int) (l14 : List (List PV)) (s15 : ByteArray) (l16 l17 : List (List PV)) (Q : PV → Heap → Prop) : Prop :=
br (b1)
  (∃ b18 : Bool, CallN Tryz.prog 38 [(.agg [i3, i4, s5, l6, i7, s8, l9, i10, i11, i12, i13, l14, s15, l16, l17])] [[i3, i4, s5, l6, i7, s8, l9, i10, i11, i12, i13, l14, s15, l16, l17]] b18
  (Q b18 [[i3, i4, s5, l6, i7, s8, l9, i10, i11, i12, i13, l14, s15, l16, l17]]))
  (Q (.con (.bool false)) [[i3, i4, s5, l6, i7, s8, l9, i10, i11, i12, i13, l14, s15, l16, l17]])
theorem a86i (b1 : Bool) (i2 i3 i4 : Int) (s5 : ByteArray) (l6 : List (List PV)) (i7 : Int) (s8 : ByteArray) (l9 : List (List PV)) (i10 i11 i12 i13 : Int) (l14 : List (List PV)) (s15 : ByteArray) (l16 l17 : List (List PV)) (Q : PV → Heap → Prop) (h : p86i b1 i2 i3 i4 s5 l6 i7 s8 l9 i10 i11 i12 i13 l14 s15 l16 l17 Q) : ACalls Tryz.prog 86 [b1, i2, (.agg [i3, i4, s5, l6, i7, s8, l9, i10, i11, i12, i13, l14, s15, l16, l17]), (.ept [(.fn 38 [])] 0)] [] Q := by
  have hb : Option.some (bodyOf Tryz.f86) = Tryz.f86.body := by kernel_rfl
  exact acalls_eq (S := S) (L := loops86i) mixed tok Tryz.func86 hb.symm (by kernel_rfl) h
def loops39j (id : Nat) : Option (List Nat × List (Nat × Sh)) := none
def p39j (l1 : List (List PV)) (Q : PV → Heap → Prop) : Prop :=
∃ b2 : Bool, CallN Tryz.prog 90 [l1, (.con (.bool true)), (.fn 91 [(.ept [(.fn 40 [])] 0)])] [[]] b2
  (Q b2 [[]])
theorem a39j (l1 : List (List PV)) (Q : PV → Heap → Prop) (h : p39j l1 Q) : ACalls Tryz.prog 39 [l1, (.fn 40 [])] [] Q := by
  have hb : Option.some (bodyOf Tryz.f39) = Tryz.f39.body := by kernel_rfl
  exact acalls_eq (S := S) (L := loops39j) mixed tok Tryz.func39 hb.symm (by kernel_rfl) h
def loops90j (id : Nat) : Option (List Nat × List (Nat × Sh)) := match Nat.beq id 2 with | true => some ([2, 9, 10], [(1, .bool), (11, .int .i64)]) | false => none
def p90j (l1 : List (List PV)) (b2 : Bool) (Q : PV → Heap → Prop) : Prop :=
∃ I3 : Nat → ((Bool) × (Int) × Unit) → Prop, (∃ n, I3 n (b2, 0, ())) ∧ ∀ (n4 : Nat) (v5 : (Bool) × (Int) × Unit), I3 n4 v5 →
  (br ((decide ((v5.2.1 : Int) < (List.length l1 : Int))))
  (∃ i6 : Int, ∃ i7 : Int, ∃ s8 : ByteArray, ∃ s9 : ByteArray, ∃ i10 : Int, ∃ s11 : ByteArray, ∃ l12 : List (List PV), ∃ i13 : Int, ∃ i14 : Int, ∃ i15 : Int, ∃ i16 : Int, ∃ i17 : Int, ∃ l18 : List (List PV), ∃ s19 : ByteArray, ∃ l20 : List (List PV), ∃ l21 : List (List PV), IdxN l1 v5.2.1 [i6, i7, s8, s9, i10, s11, l12, i13, i14, i15, i16, i17, l18, s19, l20, l21]
  (∃ b22 : Bool, CallN Tryz.prog 91 [v5.1, v5.2.1, (.agg [i6, i7, s8, s9, i10, s11, l12, i13, i14, i15, i16, i17, l18, s19, l20, l21]), (.ept [(.fn 40 [])] 0)] [[i6, i7, s8, s9, i10, s11, l12, i13, i14, i15, i16, i17, l18, s19, l20, l21]] b22
  ((@Eq PV (.fn 91 [(.ept [(.fn 40 [])] 0)]) (.fn 91 [(.ept [(.fn 40 [])] 0)]) ∧ @Eq PV l1 l1 ∧ @Eq PV (.con (.int .i64 (List.length l1 : Int))) (.con (.int .i64 (List.length l1 : Int))) ∧ True) ∧ @Eq Heap [] [] ∧ ∃ k23, k23 < n4 ∧ I3 k23 (b22, (IntKind.wrap .i64 (v5.2.1 + 1)), ()))))
  (Q v5.1 []))
theorem a90j (l1 : List (List PV)) (b2 : Bool) (Q : PV → Heap → Prop) (h : p90j l1 b2 Q) : ACalls Tryz.prog 90 [l1, b2, (.fn 91 [(.ept [(.fn 40 [])] 0)])] [] Q := by
  have hb : Option.some (bodyOf Tryz.f90) = Tryz.f90.body := by kernel_rfl
  exact acalls_eq (S := S) (L := loops90j) mixed tok Tryz.func90 hb.symm (by kernel_rfl) h
def loops91j (id : Nat) : Option (List Nat × List (Nat × Sh)) := none
def p91j (b1 : Bool) (i2 i3 i4 : Int) (s5 s6 : ByteArray) (i7 : Int) (s8 : ByteArray) (l9 : List (List PV)) (i10 i11 i12 i13 i14 : Int) (l15 : List (List PV)) (s16 : ByteArray) (l17 l18 : List (List PV)) (Q : PV → Heap → Prop) : Prop :=
br (b1)
  (∃ b19 : Bool, CallN Tryz.prog 40 [(.agg [i3, i4, s5, s6, i7, s8, l9, i10, i11, i12, i13, i14, l15, s16, l17, l18])] [[i3, i4, s5, s6, i7, s8, l9, i10, i11, i12, i13, i14, l15, s16, l17, l18]] b19
  (Q b19 [[i3, i4, s5, s6, i7, s8, l9, i10, i11, i12, i13, i14, l15, s16, l17, l18]]))
  (Q (.con (.bool false)) [[i3, i4, s5, s6, i7, s8, l9, i10, i11, i12, i13, i14, l15, s16, l17, l18]])
theorem a91j (b1 : Bool) (i2 i3 i4 : Int) (s5 s6 : ByteArray) (i7 : Int) (s8 : ByteArray) (l9 : List (List PV)) (i10 i11 i12 i13 i14 : Int) (l15 : List (List PV)) (s16 : ByteArray) (l17 l18 : List (List PV)) (Q : PV → Heap → Prop) (h : p91j b1 i2 i3 i4 s5 s6 i7 s8 l9 i10 i11 i12 i13 i14 l15 s16 l17 l18 Q) : ACalls Tryz.prog 91 [b1, i2, (.agg [i3, i4, s5, s6, i7, s8, l9, i10, i11, i12, i13, i14, l15, s16, l17, l18]), (.ept [(.fn 40 [])] 0)] [] Q := by
  have hb : Option.some (bodyOf Tryz.f91) = Tryz.f91.body := by kernel_rfl
  exact acalls_eq (S := S) (L := loops91j) mixed tok Tryz.func91 hb.symm (by kernel_rfl) h
end Go.Proofs.YtcmnjodjebcapaaGreat.Deep

namespace Go.Proofs.YtcmnjodjebcapaaGreat.Deep
open Go.RowKit
set_option linter.unusedVariables false
set_option linter.unusedSimpArgs false
theorem clo_a (b c : Bool) (i : Int) (x0 : Int) (x1 : ByteArray) (x2 : List (List PV)) (d : Int) (h : PCalls Tryz.prog 112 [.agg [.con (.int .i64 x0), .con (.string x1), .sl x2], .ept [.con (.int .i64 d)] 0] (fun r => r = .con (.bool c))) : PCalls Tryz.prog 174 [.con (.bool b), .con (.int .i64 i), .agg [.con (.int .i64 x0), .con (.string x1), .sl x2], .ept [.fn 112 [.ept [.con (.int .i64 d)] 0]] 0] (fun r => r = .con (.bool (b && c))) := by
  refine a174a _ _ _ _ _ _ _ ?_
  unfold p174a
  refine br_i (fun hb => ?_) (fun hb => ⟨by rw [hb]; rfl, rfl⟩)
  exact ⟨_, call_p (enters_of Tryz.func112 (by kernel_rfl) rfl) h rfl ⟨by rw [hb]; rfl, rfl⟩⟩
theorem fold_a (l : List (List PV)) (n : Nat) (hn : l.length = n) (hm : n ≤ 9223372036854775806) (d : Int) (q : Nat → Bool) (H : ∀ j, j < n → ∃ x0 : Int, ∃ x1 : ByteArray, ∃ x2 : List (List PV), l[j]? = some [.con (.int .i64 x0), .con (.string x1), .sl x2] ∧ PCalls Tryz.prog 112 [.agg [.con (.int .i64 x0), .con (.string x1), .sl x2], .ept [.con (.int .i64 d)] 0] (fun r => r = .con (.bool (q j)))) (b0 : Bool) : PCalls Tryz.prog 173 [.sl l, .con (.bool b0), .fn 174 [.ept [.fn 112 [.ept [.con (.int .i64 d)] 0]] 0]] (fun r => r = .con (.bool (AllTo b0 q n))) := by
  refine a173a _ _ _ _ ?_
  unfold p173a
  rw [hn]
  refine ⟨fun c v => ∃ j : Nat, j ≤ n ∧ c = n - j ∧ v.2.1 = (j : Int) ∧ v.1 = AllTo b0 q j, ⟨_, 0, Nat.zero_le _, rfl, rfl, by simp [AllTo]⟩, ?_⟩
  rintro c ⟨b, i, u⟩ ⟨j, hj, rfl, hi, hb⟩
  dsimp only at hi hb ⊢
  subst hi hb
  refine br_i (fun hlt => ?_) (fun hge => ?_)
  · have hlt : j < n := by simpa using hlt
    obtain ⟨x0, x1, x2, hx, hc⟩ := H j hlt
    refine ⟨_, _, _, ⟨by omega, by rw [Int.toNat_natCast]; exact hx, ?_⟩⟩
    refine ⟨_, call_p (enters_of Tryz.func174 (by kernel_rfl) rfl) (clo_a (AllTo b0 q j) (q j) j _ _ _ _ hc) rfl ⟨⟨by trivial, by trivial, by trivial, trivial⟩, by trivial, n - (j + 1), by omega, j + 1, by omega, rfl, ?_, ?_⟩⟩
    · rw [wrap_id (by omega) (by omega)]; simp
    · rw [AllTo.succ]
  · have hge : ¬ j < n := by simpa using hge
    obtain rfl : j = n := by omega
    exact ⟨rfl, rfl⟩
theorem all_a (l : List (List PV)) (n : Nat) (hn : l.length = n) (hm : n ≤ 9223372036854775806) (d : Int) (q : Nat → Bool) (H : ∀ j, j < n → ∃ x0 : Int, ∃ x1 : ByteArray, ∃ x2 : List (List PV), l[j]? = some [.con (.int .i64 x0), .con (.string x1), .sl x2] ∧ PCalls Tryz.prog 112 [.agg [.con (.int .i64 x0), .con (.string x1), .sl x2], .ept [.con (.int .i64 d)] 0] (fun r => r = .con (.bool (q j)))) : PCalls Tryz.prog 111 [.sl l, .fn 112 [.ept [.con (.int .i64 d)] 0]] (fun r => r = .con (.bool ((List.range n).all q))) := by
  have h := fold_a l n hn hm _ q H true
  rw [show AllTo true q n = (List.range n).all q by simp [AllTo]] at h
  refine a111a _ _ _ ?_
  unfold p111a
  exact ⟨_, call_p (enters_of Tryz.func173 (by kernel_rfl) rfl) h rfl ⟨rfl, rfl⟩⟩
theorem clo_b (b c : Bool) (i : Int) (x0 : Int) (x1 : ByteArray) (x2 : List (List PV))  (h : PCalls Tryz.prog 18 [.agg [.con (.int .i64 x0), .con (.string x1), .sl x2]] (fun r => r = .con (.bool c))) : PCalls Tryz.prog 174 [.con (.bool b), .con (.int .i64 i), .agg [.con (.int .i64 x0), .con (.string x1), .sl x2], .ept [.fn 18 []] 0] (fun r => r = .con (.bool (b && c))) := by
  refine a174b _ _ _ _ _  _ ?_
  unfold p174b
  refine br_i (fun hb => ?_) (fun hb => ⟨by rw [hb]; rfl, rfl⟩)
  exact ⟨_, call_p (enters_of Tryz.func18 (by kernel_rfl) rfl) h rfl ⟨by rw [hb]; rfl, rfl⟩⟩
theorem fold_b (l : List (List PV)) (n : Nat) (hn : l.length = n) (hm : n ≤ 9223372036854775806)  (q : Nat → Bool) (H : ∀ j, j < n → ∃ x0 : Int, ∃ x1 : ByteArray, ∃ x2 : List (List PV), l[j]? = some [.con (.int .i64 x0), .con (.string x1), .sl x2] ∧ PCalls Tryz.prog 18 [.agg [.con (.int .i64 x0), .con (.string x1), .sl x2]] (fun r => r = .con (.bool (q j)))) (b0 : Bool) : PCalls Tryz.prog 173 [.sl l, .con (.bool b0), .fn 174 [.ept [.fn 18 []] 0]] (fun r => r = .con (.bool (AllTo b0 q n))) := by
  refine a173b _ _  _ ?_
  unfold p173b
  rw [hn]
  refine ⟨fun c v => ∃ j : Nat, j ≤ n ∧ c = n - j ∧ v.2.1 = (j : Int) ∧ v.1 = AllTo b0 q j, ⟨_, 0, Nat.zero_le _, rfl, rfl, by simp [AllTo]⟩, ?_⟩
  rintro c ⟨b, i, u⟩ ⟨j, hj, rfl, hi, hb⟩
  dsimp only at hi hb ⊢
  subst hi hb
  refine br_i (fun hlt => ?_) (fun hge => ?_)
  · have hlt : j < n := by simpa using hlt
    obtain ⟨x0, x1, x2, hx, hc⟩ := H j hlt
    refine ⟨_, _, _, ⟨by omega, by rw [Int.toNat_natCast]; exact hx, ?_⟩⟩
    refine ⟨_, call_p (enters_of Tryz.func174 (by kernel_rfl) rfl) (clo_b (AllTo b0 q j) (q j) j _ _ _  hc) rfl ⟨⟨by trivial, by trivial, by trivial, trivial⟩, by trivial, n - (j + 1), by omega, j + 1, by omega, rfl, ?_, ?_⟩⟩
    · rw [wrap_id (by omega) (by omega)]; simp
    · rw [AllTo.succ]
  · have hge : ¬ j < n := by simpa using hge
    obtain rfl : j = n := by omega
    exact ⟨rfl, rfl⟩
theorem all_b (l : List (List PV)) (n : Nat) (hn : l.length = n) (hm : n ≤ 9223372036854775806)  (q : Nat → Bool) (H : ∀ j, j < n → ∃ x0 : Int, ∃ x1 : ByteArray, ∃ x2 : List (List PV), l[j]? = some [.con (.int .i64 x0), .con (.string x1), .sl x2] ∧ PCalls Tryz.prog 18 [.agg [.con (.int .i64 x0), .con (.string x1), .sl x2]] (fun r => r = .con (.bool (q j)))) : PCalls Tryz.prog 111 [.sl l, .fn 18 []] (fun r => r = .con (.bool ((List.range n).all q))) := by
  have h := fold_b l n hn hm  q H true
  rw [show AllTo true q n = (List.range n).all q by simp [AllTo]] at h
  refine a111b _  _ ?_
  unfold p111b
  exact ⟨_, call_p (enters_of Tryz.func173 (by kernel_rfl) rfl) h rfl ⟨rfl, rfl⟩⟩
theorem clo_c (b c : Bool) (i : Int) (x0 : Int) (x1 : Int) (x2 : Int) (x3 : ByteArray) (x4 : Int) (x5 : List (List PV)) (d : Int) (h : PCalls Tryz.prog 108 [.agg [.con (.int .i64 x0), .con (.int .i64 x1), .con (.int .i64 x2), .con (.string x3), .con (.int .i64 x4), .sl x5], .ept [.con (.int .i64 d)] 0] (fun r => r = .con (.bool c))) : PCalls Tryz.prog 172 [.con (.bool b), .con (.int .i64 i), .agg [.con (.int .i64 x0), .con (.int .i64 x1), .con (.int .i64 x2), .con (.string x3), .con (.int .i64 x4), .sl x5], .ept [.fn 108 [.ept [.con (.int .i64 d)] 0]] 0] (fun r => r = .con (.bool (b && c))) := by
  refine a172c _ _ _ _ _ _ _ _ _ _ ?_
  unfold p172c
  refine br_i (fun hb => ?_) (fun hb => ⟨by rw [hb]; rfl, rfl⟩)
  exact ⟨_, call_p (enters_of Tryz.func108 (by kernel_rfl) rfl) h rfl ⟨by rw [hb]; rfl, rfl⟩⟩
theorem fold_c (l : List (List PV)) (n : Nat) (hn : l.length = n) (hm : n ≤ 9223372036854775806) (d : Int) (q : Nat → Bool) (H : ∀ j, j < n → ∃ x0 : Int, ∃ x1 : Int, ∃ x2 : Int, ∃ x3 : ByteArray, ∃ x4 : Int, ∃ x5 : List (List PV), l[j]? = some [.con (.int .i64 x0), .con (.int .i64 x1), .con (.int .i64 x2), .con (.string x3), .con (.int .i64 x4), .sl x5] ∧ PCalls Tryz.prog 108 [.agg [.con (.int .i64 x0), .con (.int .i64 x1), .con (.int .i64 x2), .con (.string x3), .con (.int .i64 x4), .sl x5], .ept [.con (.int .i64 d)] 0] (fun r => r = .con (.bool (q j)))) (b0 : Bool) : PCalls Tryz.prog 171 [.sl l, .con (.bool b0), .fn 172 [.ept [.fn 108 [.ept [.con (.int .i64 d)] 0]] 0]] (fun r => r = .con (.bool (AllTo b0 q n))) := by
  refine a171c _ _ _ _ ?_
  unfold p171c
  rw [hn]
  refine ⟨fun c v => ∃ j : Nat, j ≤ n ∧ c = n - j ∧ v.2.1 = (j : Int) ∧ v.1 = AllTo b0 q j, ⟨_, 0, Nat.zero_le _, rfl, rfl, by simp [AllTo]⟩, ?_⟩
  rintro c ⟨b, i, u⟩ ⟨j, hj, rfl, hi, hb⟩
  dsimp only at hi hb ⊢
  subst hi hb
  refine br_i (fun hlt => ?_) (fun hge => ?_)
  · have hlt : j < n := by simpa using hlt
    obtain ⟨x0, x1, x2, x3, x4, x5, hx, hc⟩ := H j hlt
    refine ⟨_, _, _, _, _, _, ⟨by omega, by rw [Int.toNat_natCast]; exact hx, ?_⟩⟩
    refine ⟨_, call_p (enters_of Tryz.func172 (by kernel_rfl) rfl) (clo_c (AllTo b0 q j) (q j) j _ _ _ _ _ _ _ hc) rfl ⟨⟨by trivial, by trivial, by trivial, trivial⟩, by trivial, n - (j + 1), by omega, j + 1, by omega, rfl, ?_, ?_⟩⟩
    · rw [wrap_id (by omega) (by omega)]; simp
    · rw [AllTo.succ]
  · have hge : ¬ j < n := by simpa using hge
    obtain rfl : j = n := by omega
    exact ⟨rfl, rfl⟩
theorem all_c (l : List (List PV)) (n : Nat) (hn : l.length = n) (hm : n ≤ 9223372036854775806) (d : Int) (q : Nat → Bool) (H : ∀ j, j < n → ∃ x0 : Int, ∃ x1 : Int, ∃ x2 : Int, ∃ x3 : ByteArray, ∃ x4 : Int, ∃ x5 : List (List PV), l[j]? = some [.con (.int .i64 x0), .con (.int .i64 x1), .con (.int .i64 x2), .con (.string x3), .con (.int .i64 x4), .sl x5] ∧ PCalls Tryz.prog 108 [.agg [.con (.int .i64 x0), .con (.int .i64 x1), .con (.int .i64 x2), .con (.string x3), .con (.int .i64 x4), .sl x5], .ept [.con (.int .i64 d)] 0] (fun r => r = .con (.bool (q j)))) : PCalls Tryz.prog 107 [.sl l, .fn 108 [.ept [.con (.int .i64 d)] 0]] (fun r => r = .con (.bool ((List.range n).all q))) := by
  have h := fold_c l n hn hm _ q H true
  rw [show AllTo true q n = (List.range n).all q by simp [AllTo]] at h
  refine a107c _ _ _ ?_
  unfold p107c
  exact ⟨_, call_p (enters_of Tryz.func171 (by kernel_rfl) rfl) h rfl ⟨rfl, rfl⟩⟩
theorem clo_d (b c : Bool) (i : Int) (x0 : Int) (x1 : Int) (x2 : Int) (x3 : Int) (x4 : List (List PV)) (x5 : ByteArray) (x6 : List (List PV)) (x7 : List (List PV)) (d : Int) (h : PCalls Tryz.prog 102 [.agg [.con (.int .i64 x0), .con (.int .i64 x1), .con (.int .i64 x2), .con (.int .i64 x3), .sl x4, .con (.string x5), .sl x6, .sl x7], .ept [.con (.int .i64 d)] 0] (fun r => r = .con (.bool c))) : PCalls Tryz.prog 168 [.con (.bool b), .con (.int .i64 i), .agg [.con (.int .i64 x0), .con (.int .i64 x1), .con (.int .i64 x2), .con (.int .i64 x3), .sl x4, .con (.string x5), .sl x6, .sl x7], .ept [.fn 102 [.ept [.con (.int .i64 d)] 0]] 0] (fun r => r = .con (.bool (b && c))) := by
  refine a168d _ _ _ _ _ _ _ _ _ _ _ _ ?_
  unfold p168d
  refine br_i (fun hb => ?_) (fun hb => ⟨by rw [hb]; rfl, rfl⟩)
  exact ⟨_, call_p (enters_of Tryz.func102 (by kernel_rfl) rfl) h rfl ⟨by rw [hb]; rfl, rfl⟩⟩
theorem fold_d (l : List (List PV)) (n : Nat) (hn : l.length = n) (hm : n ≤ 9223372036854775806) (d : Int) (q : Nat → Bool) (H : ∀ j, j < n → ∃ x0 : Int, ∃ x1 : Int, ∃ x2 : Int, ∃ x3 : Int, ∃ x4 : List (List PV), ∃ x5 : ByteArray, ∃ x6 : List (List PV), ∃ x7 : List (List PV), l[j]? = some [.con (.int .i64 x0), .con (.int .i64 x1), .con (.int .i64 x2), .con (.int .i64 x3), .sl x4, .con (.string x5), .sl x6, .sl x7] ∧ PCalls Tryz.prog 102 [.agg [.con (.int .i64 x0), .con (.int .i64 x1), .con (.int .i64 x2), .con (.int .i64 x3), .sl x4, .con (.string x5), .sl x6, .sl x7], .ept [.con (.int .i64 d)] 0] (fun r => r = .con (.bool (q j)))) (b0 : Bool) : PCalls Tryz.prog 149 [.sl l, .con (.bool b0), .fn 168 [.ept [.fn 102 [.ept [.con (.int .i64 d)] 0]] 0]] (fun r => r = .con (.bool (AllTo b0 q n))) := by
  refine a149d _ _ _ _ ?_
  unfold p149d
  rw [hn]
  refine ⟨fun c v => ∃ j : Nat, j ≤ n ∧ c = n - j ∧ v.2.1 = (j : Int) ∧ v.1 = AllTo b0 q j, ⟨_, 0, Nat.zero_le _, rfl, rfl, by simp [AllTo]⟩, ?_⟩
  rintro c ⟨b, i, u⟩ ⟨j, hj, rfl, hi, hb⟩
  dsimp only at hi hb ⊢
  subst hi hb
  refine br_i (fun hlt => ?_) (fun hge => ?_)
  · have hlt : j < n := by simpa using hlt
    obtain ⟨x0, x1, x2, x3, x4, x5, x6, x7, hx, hc⟩ := H j hlt
    refine ⟨_, _, _, _, _, _, _, _, ⟨by omega, by rw [Int.toNat_natCast]; exact hx, ?_⟩⟩
    refine ⟨_, call_p (enters_of Tryz.func168 (by kernel_rfl) rfl) (clo_d (AllTo b0 q j) (q j) j _ _ _ _ _ _ _ _ _ hc) rfl ⟨⟨by trivial, by trivial, by trivial, trivial⟩, by trivial, n - (j + 1), by omega, j + 1, by omega, rfl, ?_, ?_⟩⟩
    · rw [wrap_id (by omega) (by omega)]; simp
    · rw [AllTo.succ]
  · have hge : ¬ j < n := by simpa using hge
    obtain rfl : j = n := by omega
    exact ⟨rfl, rfl⟩
theorem all_d (l : List (List PV)) (n : Nat) (hn : l.length = n) (hm : n ≤ 9223372036854775806) (d : Int) (q : Nat → Bool) (H : ∀ j, j < n → ∃ x0 : Int, ∃ x1 : Int, ∃ x2 : Int, ∃ x3 : Int, ∃ x4 : List (List PV), ∃ x5 : ByteArray, ∃ x6 : List (List PV), ∃ x7 : List (List PV), l[j]? = some [.con (.int .i64 x0), .con (.int .i64 x1), .con (.int .i64 x2), .con (.int .i64 x3), .sl x4, .con (.string x5), .sl x6, .sl x7] ∧ PCalls Tryz.prog 102 [.agg [.con (.int .i64 x0), .con (.int .i64 x1), .con (.int .i64 x2), .con (.int .i64 x3), .sl x4, .con (.string x5), .sl x6, .sl x7], .ept [.con (.int .i64 d)] 0] (fun r => r = .con (.bool (q j)))) : PCalls Tryz.prog 101 [.sl l, .fn 102 [.ept [.con (.int .i64 d)] 0]] (fun r => r = .con (.bool ((List.range n).all q))) := by
  have h := fold_d l n hn hm _ q H true
  rw [show AllTo true q n = (List.range n).all q by simp [AllTo]] at h
  refine a101d _ _ _ ?_
  unfold p101d
  exact ⟨_, call_p (enters_of Tryz.func149 (by kernel_rfl) rfl) h rfl ⟨rfl, rfl⟩⟩
theorem clo_e (b c : Bool) (i : Int) (x0 : Int) (x1 : Int) (x2 : Int) (x3 : ByteArray) (x4 : Int) (x5 : List (List PV)) (x6 : Int) (x7 : Int) (x8 : Int) (x9 : Int) (x10 : List (List PV)) (x11 : ByteArray) (x12 : List (List PV)) (x13 : List (List PV)) (d : Int) (h : PCalls Tryz.prog 104 [.agg [.con (.int .i64 x0), .con (.int .i64 x1), .con (.int .i64 x2), .con (.string x3), .con (.int .i64 x4), .sl x5, .con (.int .i64 x6), .con (.int .i64 x7), .con (.int .i64 x8), .con (.int .i64 x9), .sl x10, .con (.string x11), .sl x12, .sl x13], .ept [.con (.int .i64 d)] 0] (fun r => r = .con (.bool c))) : PCalls Tryz.prog 169 [.con (.bool b), .con (.int .i64 i), .agg [.con (.int .i64 x0), .con (.int .i64 x1), .con (.int .i64 x2), .con (.string x3), .con (.int .i64 x4), .sl x5, .con (.int .i64 x6), .con (.int .i64 x7), .con (.int .i64 x8), .con (.int .i64 x9), .sl x10, .con (.string x11), .sl x12, .sl x13], .ept [.fn 104 [.ept [.con (.int .i64 d)] 0]] 0] (fun r => r = .con (.bool (b && c))) := by
  refine a169e _ _ _ _ _ _ _ _ _ _ _ _ _ _ _ _ _ _ ?_
  unfold p169e
  refine br_i (fun hb => ?_) (fun hb => ⟨by rw [hb]; rfl, rfl⟩)
  exact ⟨_, call_p (enters_of Tryz.func104 (by kernel_rfl) rfl) h rfl ⟨by rw [hb]; rfl, rfl⟩⟩
theorem fold_e (l : List (List PV)) (n : Nat) (hn : l.length = n) (hm : n ≤ 9223372036854775806) (d : Int) (q : Nat → Bool) (H : ∀ j, j < n → ∃ x0 : Int, ∃ x1 : Int, ∃ x2 : Int, ∃ x3 : ByteArray, ∃ x4 : Int, ∃ x5 : List (List PV), ∃ x6 : Int, ∃ x7 : Int, ∃ x8 : Int, ∃ x9 : Int, ∃ x10 : List (List PV), ∃ x11 : ByteArray, ∃ x12 : List (List PV), ∃ x13 : List (List PV), l[j]? = some [.con (.int .i64 x0), .con (.int .i64 x1), .con (.int .i64 x2), .con (.string x3), .con (.int .i64 x4), .sl x5, .con (.int .i64 x6), .con (.int .i64 x7), .con (.int .i64 x8), .con (.int .i64 x9), .sl x10, .con (.string x11), .sl x12, .sl x13] ∧ PCalls Tryz.prog 104 [.agg [.con (.int .i64 x0), .con (.int .i64 x1), .con (.int .i64 x2), .con (.string x3), .con (.int .i64 x4), .sl x5, .con (.int .i64 x6), .con (.int .i64 x7), .con (.int .i64 x8), .con (.int .i64 x9), .sl x10, .con (.string x11), .sl x12, .sl x13], .ept [.con (.int .i64 d)] 0] (fun r => r = .con (.bool (q j)))) (b0 : Bool) : PCalls Tryz.prog 151 [.sl l, .con (.bool b0), .fn 169 [.ept [.fn 104 [.ept [.con (.int .i64 d)] 0]] 0]] (fun r => r = .con (.bool (AllTo b0 q n))) := by
  refine a151e _ _ _ _ ?_
  unfold p151e
  rw [hn]
  refine ⟨fun c v => ∃ j : Nat, j ≤ n ∧ c = n - j ∧ v.2.1 = (j : Int) ∧ v.1 = AllTo b0 q j, ⟨_, 0, Nat.zero_le _, rfl, rfl, by simp [AllTo]⟩, ?_⟩
  rintro c ⟨b, i, u⟩ ⟨j, hj, rfl, hi, hb⟩
  dsimp only at hi hb ⊢
  subst hi hb
  refine br_i (fun hlt => ?_) (fun hge => ?_)
  · have hlt : j < n := by simpa using hlt
    obtain ⟨x0, x1, x2, x3, x4, x5, x6, x7, x8, x9, x10, x11, x12, x13, hx, hc⟩ := H j hlt
    refine ⟨_, _, _, _, _, _, _, _, _, _, _, _, _, _, ⟨by omega, by rw [Int.toNat_natCast]; exact hx, ?_⟩⟩
    refine ⟨_, call_p (enters_of Tryz.func169 (by kernel_rfl) rfl) (clo_e (AllTo b0 q j) (q j) j _ _ _ _ _ _ _ _ _ _ _ _ _ _ _ hc) rfl ⟨⟨by trivial, by trivial, by trivial, trivial⟩, by trivial, n - (j + 1), by omega, j + 1, by omega, rfl, ?_, ?_⟩⟩
    · rw [wrap_id (by omega) (by omega)]; simp
    · rw [AllTo.succ]
  · have hge : ¬ j < n := by simpa using hge
    obtain rfl : j = n := by omega
    exact ⟨rfl, rfl⟩
theorem all_e (l : List (List PV)) (n : Nat) (hn : l.length = n) (hm : n ≤ 9223372036854775806) (d : Int) (q : Nat → Bool) (H : ∀ j, j < n → ∃ x0 : Int, ∃ x1 : Int, ∃ x2 : Int, ∃ x3 : ByteArray, ∃ x4 : Int, ∃ x5 : List (List PV), ∃ x6 : Int, ∃ x7 : Int, ∃ x8 : Int, ∃ x9 : Int, ∃ x10 : List (List PV), ∃ x11 : ByteArray, ∃ x12 : List (List PV), ∃ x13 : List (List PV), l[j]? = some [.con (.int .i64 x0), .con (.int .i64 x1), .con (.int .i64 x2), .con (.string x3), .con (.int .i64 x4), .sl x5, .con (.int .i64 x6), .con (.int .i64 x7), .con (.int .i64 x8), .con (.int .i64 x9), .sl x10, .con (.string x11), .sl x12, .sl x13] ∧ PCalls Tryz.prog 104 [.agg [.con (.int .i64 x0), .con (.int .i64 x1), .con (.int .i64 x2), .con (.string x3), .con (.int .i64 x4), .sl x5, .con (.int .i64 x6), .con (.int .i64 x7), .con (.int .i64 x8), .con (.int .i64 x9), .sl x10, .con (.string x11), .sl x12, .sl x13], .ept [.con (.int .i64 d)] 0] (fun r => r = .con (.bool (q j)))) : PCalls Tryz.prog 103 [.sl l, .fn 104 [.ept [.con (.int .i64 d)] 0]] (fun r => r = .con (.bool ((List.range n).all q))) := by
  have h := fold_e l n hn hm _ q H true
  rw [show AllTo true q n = (List.range n).all q by simp [AllTo]] at h
  refine a103e _ _ _ ?_
  unfold p103e
  exact ⟨_, call_p (enters_of Tryz.func151 (by kernel_rfl) rfl) h rfl ⟨rfl, rfl⟩⟩
theorem clo_f (b c : Bool) (i : Int) (x0 : ByteArray) (x1 : List (List PV))  (h : PCalls Tryz.prog 84 [.agg [.con (.string x0), .sl x1]] (fun r => r = .con (.bool c))) : PCalls Tryz.prog 155 [.con (.bool b), .con (.int .i64 i), .agg [.con (.string x0), .sl x1], .ept [.fn 84 []] 0] (fun r => r = .con (.bool (b && c))) := by
  refine a155f _ _ _ _  _ ?_
  unfold p155f
  refine br_i (fun hb => ?_) (fun hb => ⟨by rw [hb]; rfl, rfl⟩)
  exact ⟨_, call_p (enters_of Tryz.func84 (by kernel_rfl) rfl) h rfl ⟨by rw [hb]; rfl, rfl⟩⟩
theorem fold_f (l : List (List PV)) (n : Nat) (hn : l.length = n) (hm : n ≤ 9223372036854775806)  (q : Nat → Bool) (H : ∀ j, j < n → ∃ x0 : ByteArray, ∃ x1 : List (List PV), l[j]? = some [.con (.string x0), .sl x1] ∧ PCalls Tryz.prog 84 [.agg [.con (.string x0), .sl x1]] (fun r => r = .con (.bool (q j)))) (b0 : Bool) : PCalls Tryz.prog 154 [.sl l, .con (.bool b0), .fn 155 [.ept [.fn 84 []] 0]] (fun r => r = .con (.bool (AllTo b0 q n))) := by
  refine a154f _ _  _ ?_
  unfold p154f
  rw [hn]
  refine ⟨fun c v => ∃ j : Nat, j ≤ n ∧ c = n - j ∧ v.2.1 = (j : Int) ∧ v.1 = AllTo b0 q j, ⟨_, 0, Nat.zero_le _, rfl, rfl, by simp [AllTo]⟩, ?_⟩
  rintro c ⟨b, i, u⟩ ⟨j, hj, rfl, hi, hb⟩
  dsimp only at hi hb ⊢
  subst hi hb
  refine br_i (fun hlt => ?_) (fun hge => ?_)
  · have hlt : j < n := by simpa using hlt
    obtain ⟨x0, x1, hx, hc⟩ := H j hlt
    refine ⟨_, _, ⟨by omega, by rw [Int.toNat_natCast]; exact hx, ?_⟩⟩
    refine ⟨_, call_p (enters_of Tryz.func155 (by kernel_rfl) rfl) (clo_f (AllTo b0 q j) (q j) j _ _  hc) rfl ⟨⟨by trivial, by trivial, by trivial, trivial⟩, by trivial, n - (j + 1), by omega, j + 1, by omega, rfl, ?_, ?_⟩⟩
    · rw [wrap_id (by omega) (by omega)]; simp
    · rw [AllTo.succ]
  · have hge : ¬ j < n := by simpa using hge
    obtain rfl : j = n := by omega
    exact ⟨rfl, rfl⟩
theorem all_f (l : List (List PV)) (n : Nat) (hn : l.length = n) (hm : n ≤ 9223372036854775806)  (q : Nat → Bool) (H : ∀ j, j < n → ∃ x0 : ByteArray, ∃ x1 : List (List PV), l[j]? = some [.con (.string x0), .sl x1] ∧ PCalls Tryz.prog 84 [.agg [.con (.string x0), .sl x1]] (fun r => r = .con (.bool (q j)))) : PCalls Tryz.prog 83 [.sl l, .fn 84 []] (fun r => r = .con (.bool ((List.range n).all q))) := by
  have h := fold_f l n hn hm  q H true
  rw [show AllTo true q n = (List.range n).all q by simp [AllTo]] at h
  refine a83f _  _ ?_
  unfold p83f
  exact ⟨_, call_p (enters_of Tryz.func154 (by kernel_rfl) rfl) h rfl ⟨rfl, rfl⟩⟩
theorem clo_g (b c : Bool) (i : Int) (x0 : Int) (x1 : Int) (x2 : ByteArray) (x3 : List (List PV))  (h : PCalls Tryz.prog 36 [.agg [.con (.int .i64 x0), .con (.int .i64 x1), .con (.string x2), .sl x3]] (fun r => r = .con (.bool c))) : PCalls Tryz.prog 81 [.con (.bool b), .con (.int .i64 i), .agg [.con (.int .i64 x0), .con (.int .i64 x1), .con (.string x2), .sl x3], .ept [.fn 36 []] 0] (fun r => r = .con (.bool (b && c))) := by
  refine a81g _ _ _ _ _ _  _ ?_
  unfold p81g
  refine br_i (fun hb => ?_) (fun hb => ⟨by rw [hb]; rfl, rfl⟩)
  exact ⟨_, call_p (enters_of Tryz.func36 (by kernel_rfl) rfl) h rfl ⟨by rw [hb]; rfl, rfl⟩⟩
theorem fold_g (l : List (List PV)) (n : Nat) (hn : l.length = n) (hm : n ≤ 9223372036854775806)  (q : Nat → Bool) (H : ∀ j, j < n → ∃ x0 : Int, ∃ x1 : Int, ∃ x2 : ByteArray, ∃ x3 : List (List PV), l[j]? = some [.con (.int .i64 x0), .con (.int .i64 x1), .con (.string x2), .sl x3] ∧ PCalls Tryz.prog 36 [.agg [.con (.int .i64 x0), .con (.int .i64 x1), .con (.string x2), .sl x3]] (fun r => r = .con (.bool (q j)))) (b0 : Bool) : PCalls Tryz.prog 80 [.sl l, .con (.bool b0), .fn 81 [.ept [.fn 36 []] 0]] (fun r => r = .con (.bool (AllTo b0 q n))) := by
  refine a80g _ _  _ ?_
  unfold p80g
  rw [hn]
  refine ⟨fun c v => ∃ j : Nat, j ≤ n ∧ c = n - j ∧ v.2.1 = (j : Int) ∧ v.1 = AllTo b0 q j, ⟨_, 0, Nat.zero_le _, rfl, rfl, by simp [AllTo]⟩, ?_⟩
  rintro c ⟨b, i, u⟩ ⟨j, hj, rfl, hi, hb⟩
  dsimp only at hi hb ⊢
  subst hi hb
  refine br_i (fun hlt => ?_) (fun hge => ?_)
  · have hlt : j < n := by simpa using hlt
    obtain ⟨x0, x1, x2, x3, hx, hc⟩ := H j hlt
    refine ⟨_, _, _, _, ⟨by omega, by rw [Int.toNat_natCast]; exact hx, ?_⟩⟩
    refine ⟨_, call_p (enters_of Tryz.func81 (by kernel_rfl) rfl) (clo_g (AllTo b0 q j) (q j) j _ _ _ _  hc) rfl ⟨⟨by trivial, by trivial, by trivial, trivial⟩, by trivial, n - (j + 1), by omega, j + 1, by omega, rfl, ?_, ?_⟩⟩
    · rw [wrap_id (by omega) (by omega)]; simp
    · rw [AllTo.succ]
  · have hge : ¬ j < n := by simpa using hge
    obtain rfl : j = n := by omega
    exact ⟨rfl, rfl⟩
theorem all_g (l : List (List PV)) (n : Nat) (hn : l.length = n) (hm : n ≤ 9223372036854775806)  (q : Nat → Bool) (H : ∀ j, j < n → ∃ x0 : Int, ∃ x1 : Int, ∃ x2 : ByteArray, ∃ x3 : List (List PV), l[j]? = some [.con (.int .i64 x0), .con (.int .i64 x1), .con (.string x2), .sl x3] ∧ PCalls Tryz.prog 36 [.agg [.con (.int .i64 x0), .con (.int .i64 x1), .con (.string x2), .sl x3]] (fun r => r = .con (.bool (q j)))) : PCalls Tryz.prog 35 [.sl l, .fn 36 []] (fun r => r = .con (.bool ((List.range n).all q))) := by
  have h := fold_g l n hn hm  q H true
  rw [show AllTo true q n = (List.range n).all q by simp [AllTo]] at h
  refine a35g _  _ ?_
  unfold p35g
  exact ⟨_, call_p (enters_of Tryz.func80 (by kernel_rfl) rfl) h rfl ⟨rfl, rfl⟩⟩
theorem clo_h (b c : Bool) (i : Int) (x0 : ByteArray) (x1 : Int) (x2 : ByteArray) (x3 : List (List PV))  (h : PCalls Tryz.prog 89 [.agg [.con (.string x0), .con (.int .i64 x1), .con (.string x2), .sl x3]] (fun r => r = .con (.bool c))) : PCalls Tryz.prog 158 [.con (.bool b), .con (.int .i64 i), .agg [.con (.string x0), .con (.int .i64 x1), .con (.string x2), .sl x3], .ept [.fn 89 []] 0] (fun r => r = .con (.bool (b && c))) := by
  refine a158h _ _ _ _ _ _  _ ?_
  unfold p158h
  refine br_i (fun hb => ?_) (fun hb => ⟨by rw [hb]; rfl, rfl⟩)
  exact ⟨_, call_p (enters_of Tryz.func89 (by kernel_rfl) rfl) h rfl ⟨by rw [hb]; rfl, rfl⟩⟩
theorem fold_h (l : List (List PV)) (n : Nat) (hn : l.length = n) (hm : n ≤ 9223372036854775806)  (q : Nat → Bool) (H : ∀ j, j < n → ∃ x0 : ByteArray, ∃ x1 : Int, ∃ x2 : ByteArray, ∃ x3 : List (List PV), l[j]? = some [.con (.string x0), .con (.int .i64 x1), .con (.string x2), .sl x3] ∧ PCalls Tryz.prog 89 [.agg [.con (.string x0), .con (.int .i64 x1), .con (.string x2), .sl x3]] (fun r => r = .con (.bool (q j)))) (b0 : Bool) : PCalls Tryz.prog 157 [.sl l, .con (.bool b0), .fn 158 [.ept [.fn 89 []] 0]] (fun r => r = .con (.bool (AllTo b0 q n))) := by
  refine a157h _ _  _ ?_
  unfold p157h
  rw [hn]
  refine ⟨fun c v => ∃ j : Nat, j ≤ n ∧ c = n - j ∧ v.2.1 = (j : Int) ∧ v.1 = AllTo b0 q j, ⟨_, 0, Nat.zero_le _, rfl, rfl, by simp [AllTo]⟩, ?_⟩
  rintro c ⟨b, i, u⟩ ⟨j, hj, rfl, hi, hb⟩
  dsimp only at hi hb ⊢
  subst hi hb
  refine br_i (fun hlt => ?_) (fun hge => ?_)
  · have hlt : j < n := by simpa using hlt
    obtain ⟨x0, x1, x2, x3, hx, hc⟩ := H j hlt
    refine ⟨_, _, _, _, ⟨by omega, by rw [Int.toNat_natCast]; exact hx, ?_⟩⟩
    refine ⟨_, call_p (enters_of Tryz.func158 (by kernel_rfl) rfl) (clo_h (AllTo b0 q j) (q j) j _ _ _ _  hc) rfl ⟨⟨by trivial, by trivial, by trivial, trivial⟩, by trivial, n - (j + 1), by omega, j + 1, by omega, rfl, ?_, ?_⟩⟩
    · rw [wrap_id (by omega) (by omega)]; simp
    · rw [AllTo.succ]
  · have hge : ¬ j < n := by simpa using hge
    obtain rfl : j = n := by omega
    exact ⟨rfl, rfl⟩
theorem all_h (l : List (List PV)) (n : Nat) (hn : l.length = n) (hm : n ≤ 9223372036854775806)  (q : Nat → Bool) (H : ∀ j, j < n → ∃ x0 : ByteArray, ∃ x1 : Int, ∃ x2 : ByteArray, ∃ x3 : List (List PV), l[j]? = some [.con (.string x0), .con (.int .i64 x1), .con (.string x2), .sl x3] ∧ PCalls Tryz.prog 89 [.agg [.con (.string x0), .con (.int .i64 x1), .con (.string x2), .sl x3]] (fun r => r = .con (.bool (q j)))) : PCalls Tryz.prog 88 [.sl l, .fn 89 []] (fun r => r = .con (.bool ((List.range n).all q))) := by
  have h := fold_h l n hn hm  q H true
  rw [show AllTo true q n = (List.range n).all q by simp [AllTo]] at h
  refine a88h _  _ ?_
  unfold p88h
  exact ⟨_, call_p (enters_of Tryz.func157 (by kernel_rfl) rfl) h rfl ⟨rfl, rfl⟩⟩
theorem clo_i (b c : Bool) (i : Int) (x0 : Int) (x1 : Int) (x2 : ByteArray) (x3 : List (List PV)) (x4 : Int) (x5 : ByteArray) (x6 : List (List PV)) (x7 : Int) (x8 : Int) (x9 : Int) (x10 : Int) (x11 : List (List PV)) (x12 : ByteArray) (x13 : List (List PV)) (x14 : List (List PV))  (h : PCalls Tryz.prog 38 [.agg [.con (.int .i64 x0), .con (.int .i64 x1), .con (.string x2), .sl x3, .con (.int .i64 x4), .con (.string x5), .sl x6, .con (.int .i64 x7), .con (.int .i64 x8), .con (.int .i64 x9), .con (.int .i64 x10), .sl x11, .con (.string x12), .sl x13, .sl x14]] (fun r => r = .con (.bool c))) : PCalls Tryz.prog 86 [.con (.bool b), .con (.int .i64 i), .agg [.con (.int .i64 x0), .con (.int .i64 x1), .con (.string x2), .sl x3, .con (.int .i64 x4), .con (.string x5), .sl x6, .con (.int .i64 x7), .con (.int .i64 x8), .con (.int .i64 x9), .con (.int .i64 x10), .sl x11, .con (.string x12), .sl x13, .sl x14], .ept [.fn 38 []] 0] (fun r => r = .con (.bool (b && c))) := by
  refine a86i _ _ _ _ _ _ _ _ _ _ _ _ _ _ _ _ _  _ ?_
  unfold p86i
  refine br_i (fun hb => ?_) (fun hb => ⟨by rw [hb]; rfl, rfl⟩)
  exact ⟨_, call_p (enters_of Tryz.func38 (by kernel_rfl) rfl) h rfl ⟨by rw [hb]; rfl, rfl⟩⟩
theorem fold_i (l : List (List PV)) (n : Nat) (hn : l.length = n) (hm : n ≤ 9223372036854775806)  (q : Nat → Bool) (H : ∀ j, j < n → ∃ x0 : Int, ∃ x1 : Int, ∃ x2 : ByteArray, ∃ x3 : List (List PV), ∃ x4 : Int, ∃ x5 : ByteArray, ∃ x6 : List (List PV), ∃ x7 : Int, ∃ x8 : Int, ∃ x9 : Int, ∃ x10 : Int, ∃ x11 : List (List PV), ∃ x12 : ByteArray, ∃ x13 : List (List PV), ∃ x14 : List (List PV), l[j]? = some [.con (.int .i64 x0), .con (.int .i64 x1), .con (.string x2), .sl x3, .con (.int .i64 x4), .con (.string x5), .sl x6, .con (.int .i64 x7), .con (.int .i64 x8), .con (.int .i64 x9), .con (.int .i64 x10), .sl x11, .con (.string x12), .sl x13, .sl x14] ∧ PCalls Tryz.prog 38 [.agg [.con (.int .i64 x0), .con (.int .i64 x1), .con (.string x2), .sl x3, .con (.int .i64 x4), .con (.string x5), .sl x6, .con (.int .i64 x7), .con (.int .i64 x8), .con (.int .i64 x9), .con (.int .i64 x10), .sl x11, .con (.string x12), .sl x13, .sl x14]] (fun r => r = .con (.bool (q j)))) (b0 : Bool) : PCalls Tryz.prog 85 [.sl l, .con (.bool b0), .fn 86 [.ept [.fn 38 []] 0]] (fun r => r = .con (.bool (AllTo b0 q n))) := by
  refine a85i _ _  _ ?_
  unfold p85i
  rw [hn]
  refine ⟨fun c v => ∃ j : Nat, j ≤ n ∧ c = n - j ∧ v.2.1 = (j : Int) ∧ v.1 = AllTo b0 q j, ⟨_, 0, Nat.zero_le _, rfl, rfl, by simp [AllTo]⟩, ?_⟩
  rintro c ⟨b, i, u⟩ ⟨j, hj, rfl, hi, hb⟩
  dsimp only at hi hb ⊢
  subst hi hb
  refine br_i (fun hlt => ?_) (fun hge => ?_)
  · have hlt : j < n := by simpa using hlt
    obtain ⟨x0, x1, x2, x3, x4, x5, x6, x7, x8, x9, x10, x11, x12, x13, x14, hx, hc⟩ := H j hlt
    refine ⟨_, _, _, _, _, _, _, _, _, _, _, _, _, _, _, ⟨by omega, by rw [Int.toNat_natCast]; exact hx, ?_⟩⟩
    refine ⟨_, call_p (enters_of Tryz.func86 (by kernel_rfl) rfl) (clo_i (AllTo b0 q j) (q j) j _ _ _ _ _ _ _ _ _ _ _ _ _ _ _  hc) rfl ⟨⟨by trivial, by trivial, by trivial, trivial⟩, by trivial, n - (j + 1), by omega, j + 1, by omega, rfl, ?_, ?_⟩⟩
    · rw [wrap_id (by omega) (by omega)]; simp
    · rw [AllTo.succ]
  · have hge : ¬ j < n := by simpa using hge
    obtain rfl : j = n := by omega
    exact ⟨rfl, rfl⟩
theorem all_i (l : List (List PV)) (n : Nat) (hn : l.length = n) (hm : n ≤ 9223372036854775806)  (q : Nat → Bool) (H : ∀ j, j < n → ∃ x0 : Int, ∃ x1 : Int, ∃ x2 : ByteArray, ∃ x3 : List (List PV), ∃ x4 : Int, ∃ x5 : ByteArray, ∃ x6 : List (List PV), ∃ x7 : Int, ∃ x8 : Int, ∃ x9 : Int, ∃ x10 : Int, ∃ x11 : List (List PV), ∃ x12 : ByteArray, ∃ x13 : List (List PV), ∃ x14 : List (List PV), l[j]? = some [.con (.int .i64 x0), .con (.int .i64 x1), .con (.string x2), .sl x3, .con (.int .i64 x4), .con (.string x5), .sl x6, .con (.int .i64 x7), .con (.int .i64 x8), .con (.int .i64 x9), .con (.int .i64 x10), .sl x11, .con (.string x12), .sl x13, .sl x14] ∧ PCalls Tryz.prog 38 [.agg [.con (.int .i64 x0), .con (.int .i64 x1), .con (.string x2), .sl x3, .con (.int .i64 x4), .con (.string x5), .sl x6, .con (.int .i64 x7), .con (.int .i64 x8), .con (.int .i64 x9), .con (.int .i64 x10), .sl x11, .con (.string x12), .sl x13, .sl x14]] (fun r => r = .con (.bool (q j)))) : PCalls Tryz.prog 37 [.sl l, .fn 38 []] (fun r => r = .con (.bool ((List.range n).all q))) := by
  have h := fold_i l n hn hm  q H true
  rw [show AllTo true q n = (List.range n).all q by simp [AllTo]] at h
  refine a37i _  _ ?_
  unfold p37i
  exact ⟨_, call_p (enters_of Tryz.func85 (by kernel_rfl) rfl) h rfl ⟨rfl, rfl⟩⟩
theorem clo_j (b c : Bool) (i : Int) (x0 : Int) (x1 : Int) (x2 : ByteArray) (x3 : ByteArray) (x4 : Int) (x5 : ByteArray) (x6 : List (List PV)) (x7 : Int) (x8 : Int) (x9 : Int) (x10 : Int) (x11 : Int) (x12 : List (List PV)) (x13 : ByteArray) (x14 : List (List PV)) (x15 : List (List PV))  (h : PCalls Tryz.prog 40 [.agg [.con (.int .i64 x0), .con (.int .i64 x1), .con (.string x2), .con (.string x3), .con (.int .i64 x4), .con (.string x5), .sl x6, .con (.int .i64 x7), .con (.int .i64 x8), .con (.int .i64 x9), .con (.int .i64 x10), .con (.int .i64 x11), .sl x12, .con (.string x13), .sl x14, .sl x15]] (fun r => r = .con (.bool c))) : PCalls Tryz.prog 91 [.con (.bool b), .con (.int .i64 i), .agg [.con (.int .i64 x0), .con (.int .i64 x1), .con (.string x2), .con (.string x3), .con (.int .i64 x4), .con (.string x5), .sl x6, .con (.int .i64 x7), .con (.int .i64 x8), .con (.int .i64 x9), .con (.int .i64 x10), .con (.int .i64 x11), .sl x12, .con (.string x13), .sl x14, .sl x15], .ept [.fn 40 []] 0] (fun r => r = .con (.bool (b && c))) := by
  refine a91j _ _ _ _ _ _ _ _ _ _ _ _ _ _ _ _ _ _  _ ?_
  unfold p91j
  refine br_i (fun hb => ?_) (fun hb => ⟨by rw [hb]; rfl, rfl⟩)
  exact ⟨_, call_p (enters_of Tryz.func40 (by kernel_rfl) rfl) h rfl ⟨by rw [hb]; rfl, rfl⟩⟩
theorem fold_j (l : List (List PV)) (n : Nat) (hn : l.length = n) (hm : n ≤ 9223372036854775806)  (q : Nat → Bool) (H : ∀ j, j < n → ∃ x0 : Int, ∃ x1 : Int, ∃ x2 : ByteArray, ∃ x3 : ByteArray, ∃ x4 : Int, ∃ x5 : ByteArray, ∃ x6 : List (List PV), ∃ x7 : Int, ∃ x8 : Int, ∃ x9 : Int, ∃ x10 : Int, ∃ x11 : Int, ∃ x12 : List (List PV), ∃ x13 : ByteArray, ∃ x14 : List (List PV), ∃ x15 : List (List PV), l[j]? = some [.con (.int .i64 x0), .con (.int .i64 x1), .con (.string x2), .con (.string x3), .con (.int .i64 x4), .con (.string x5), .sl x6, .con (.int .i64 x7), .con (.int .i64 x8), .con (.int .i64 x9), .con (.int .i64 x10), .con (.int .i64 x11), .sl x12, .con (.string x13), .sl x14, .sl x15] ∧ PCalls Tryz.prog 40 [.agg [.con (.int .i64 x0), .con (.int .i64 x1), .con (.string x2), .con (.string x3), .con (.int .i64 x4), .con (.string x5), .sl x6, .con (.int .i64 x7), .con (.int .i64 x8), .con (.int .i64 x9), .con (.int .i64 x10), .con (.int .i64 x11), .sl x12, .con (.string x13), .sl x14, .sl x15]] (fun r => r = .con (.bool (q j)))) (b0 : Bool) : PCalls Tryz.prog 90 [.sl l, .con (.bool b0), .fn 91 [.ept [.fn 40 []] 0]] (fun r => r = .con (.bool (AllTo b0 q n))) := by
  refine a90j _ _  _ ?_
  unfold p90j
  rw [hn]
  refine ⟨fun c v => ∃ j : Nat, j ≤ n ∧ c = n - j ∧ v.2.1 = (j : Int) ∧ v.1 = AllTo b0 q j, ⟨_, 0, Nat.zero_le _, rfl, rfl, by simp [AllTo]⟩, ?_⟩
  rintro c ⟨b, i, u⟩ ⟨j, hj, rfl, hi, hb⟩
  dsimp only at hi hb ⊢
  subst hi hb
  refine br_i (fun hlt => ?_) (fun hge => ?_)
  · have hlt : j < n := by simpa using hlt
    obtain ⟨x0, x1, x2, x3, x4, x5, x6, x7, x8, x9, x10, x11, x12, x13, x14, x15, hx, hc⟩ := H j hlt
    refine ⟨_, _, _, _, _, _, _, _, _, _, _, _, _, _, _, _, ⟨by omega, by rw [Int.toNat_natCast]; exact hx, ?_⟩⟩
    refine ⟨_, call_p (enters_of Tryz.func91 (by kernel_rfl) rfl) (clo_j (AllTo b0 q j) (q j) j _ _ _ _ _ _ _ _ _ _ _ _ _ _ _ _  hc) rfl ⟨⟨by trivial, by trivial, by trivial, trivial⟩, by trivial, n - (j + 1), by omega, j + 1, by omega, rfl, ?_, ?_⟩⟩
    · rw [wrap_id (by omega) (by omega)]; simp
    · rw [AllTo.succ]
  · have hge : ¬ j < n := by simpa using hge
    obtain rfl : j = n := by omega
    exact ⟨rfl, rfl⟩
theorem all_j (l : List (List PV)) (n : Nat) (hn : l.length = n) (hm : n ≤ 9223372036854775806)  (q : Nat → Bool) (H : ∀ j, j < n → ∃ x0 : Int, ∃ x1 : Int, ∃ x2 : ByteArray, ∃ x3 : ByteArray, ∃ x4 : Int, ∃ x5 : ByteArray, ∃ x6 : List (List PV), ∃ x7 : Int, ∃ x8 : Int, ∃ x9 : Int, ∃ x10 : Int, ∃ x11 : Int, ∃ x12 : List (List PV), ∃ x13 : ByteArray, ∃ x14 : List (List PV), ∃ x15 : List (List PV), l[j]? = some [.con (.int .i64 x0), .con (.int .i64 x1), .con (.string x2), .con (.string x3), .con (.int .i64 x4), .con (.string x5), .sl x6, .con (.int .i64 x7), .con (.int .i64 x8), .con (.int .i64 x9), .con (.int .i64 x10), .con (.int .i64 x11), .sl x12, .con (.string x13), .sl x14, .sl x15] ∧ PCalls Tryz.prog 40 [.agg [.con (.int .i64 x0), .con (.int .i64 x1), .con (.string x2), .con (.string x3), .con (.int .i64 x4), .con (.string x5), .sl x6, .con (.int .i64 x7), .con (.int .i64 x8), .con (.int .i64 x9), .con (.int .i64 x10), .con (.int .i64 x11), .sl x12, .con (.string x13), .sl x14, .sl x15]] (fun r => r = .con (.bool (q j)))) : PCalls Tryz.prog 39 [.sl l, .fn 40 []] (fun r => r = .con (.bool ((List.range n).all q))) := by
  have h := fold_j l n hn hm  q H true
  rw [show AllTo true q n = (List.range n).all q by simp [AllTo]] at h
  refine a39j _  _ ?_
  unfold p39j
  exact ⟨_, call_p (enters_of Tryz.func90 (by kernel_rfl) rfl) h rfl ⟨rfl, rfl⟩⟩
end Go.Proofs.YtcmnjodjebcapaaGreat.Deep

namespace Go.Proofs.YtcmnjodjebcapaaGreat.Deep
open Go.RowKit
set_option linter.unusedVariables false
set_option linter.unusedSimpArgs false
theorem any_p : PCalls Tryz.prog 163 [] (fun r => r = .agg [.fn 195 [], .con (.int .i64 0), .con (.int .i64 0), .con (.int .i64 0), .con (.int .i64 0), .con (.int .i64 0), .con (.int .i64 0), .con (.int .i64 0), .con (.int .i64 0)]) := by
  refine a163 _ ?_
  unfold p163
  exact ⟨rfl, rfl⟩
theorem from_p (a b : Int) : PCalls Tryz.prog 33 [.con (.int .i64 a), .con (.int .i64 b)] (fun r => r = .agg [.con (.int .i64 a), .con (.int .i64 b)]) := by
  refine a33 _ _ _ ?_
  unfold p33
  exact ⟨rfl, rfl⟩
theorem just_p (a : Int) : PCalls Tryz.prog 166 [.con (.int .i64 a)] (fun r => r = .agg [.con (.int .i64 a), .con (.int .i64 a)]) := by
  refine a166 _ _ ?_
  unfold p166
  exact ⟨rfl, rfl⟩
theorem has_p (a b n : Int) : PCalls Tryz.prog 79 [.agg [.con (.int .i64 a), .con (.int .i64 b)], .con (.int .i64 n)] (fun r => r = .con (.bool (inB a b n))) := by
  refine a79 _ _ _ _ ?_
  unfold p79 inB
  exact br_i (fun h => ⟨by rw [h]; rfl, rfl⟩) (fun h => ⟨by rw [h]; rfl, rfl⟩)
theorem many_p (a b n : Int) : PCalls Tryz.prog 34 [.agg [.con (.int .i64 a), .con (.int .i64 b)], .con (.int .i64 n)] (fun r => r = .con (.bool (inB a b n))) := by
  refine a34 _ _ _ _ ?_
  unfold p34
  exact ⟨_, call_p (enters_of Tryz.func79 (by kernel_rfl) rfl) (has_p a b n) rfl ⟨rfl, rfl⟩⟩
theorem operands_p (m : Int) : PCalls Tryz.prog 167 [.con (.int .i64 m)] (fun r => r = .con (.int .i64 (argsOf m))) := pcalls_of (us := [.int .i64 m]) (fun w => still_below (operands_any m w))
theorem empty_p (s : ByteArray) : PCalls Tryz.prog 164 [.con (.string s)] (fun r => r = .con (.bool (noneB s))) := pcalls_of (us := [.string s]) (fun w => still_below (empty_any s w))
theorem nothing_p (s : ByteArray) : PCalls Tryz.prog 195 [.con (.string s)] (fun r => r = .con (.bool false)) := pcalls_of (us := [.string s]) (fun w => still_below (nothing_any s w))
theorem small_p (s : ByteArray) (hs : s.size ≤ 3000) : PCalls Tryz.prog 92 [.con (.string s)] (fun r => r = .con (.bool (namedB s false))) := pcalls_of (us := [.string s]) (small_any s (by omega))
theorem great_p (s : ByteArray) (hs : s.size ≤ 3000) : PCalls Tryz.prog 156 [.con (.string s)] (fun r => r = .con (.bool (namedB s true))) := pcalls_of (us := [.string s]) (great_any s (by omega))
theorem var_p (s : ByteArray) (hs : s.size ≤ 3000) : PCalls Tryz.prog 165 [.con (.string s)] (fun r => r = .con (.bool (varB s))) := pcalls_of (us := [.string s]) (var_any s (by omega))
theorem ofdata_p (s : ByteArray) (hs : s.size ≤ 3000) : PCalls Tryz.prog 82 [.con (.string s)] (fun r => r = .con (.bool (dataB s))) := pcalls_of (us := [.string s]) (ofdata_any s (by omega))
theorem offun_p (s : ByteArray) (hs : s.size ≤ 3000) : PCalls Tryz.prog 87 [.con (.string s)] (fun r => r = .con (.bool (funB s))) := pcalls_of (us := [.string s]) (offun_any s (by omega))
theorem in_n (c : Nat) (n : Nat) : inB c c n = decide (n = c) := by unfold inB; rw [Bool.eq_iff_iff]; simp; omega
theorem in_0 (n : Nat) : inB 0 0 n = decide (n = 0) := in_n 0 n
theorem in_1 (n : Nat) : inB 1 1 n = decide (n = 1) := in_n 1 n
theorem in_2 (n : Nat) : inB 2 2 n = decide (n = 2) := in_n 2 n
theorem in_3 (n : Nat) : inB 3 3 n = decide (n = 3) := in_n 3 n
theorem in_i (c n : Int) : inB c c n = decide (n = c) := by unfold inB; rw [Bool.eq_iff_iff]; simp; omega
theorem in_z (n : Int) : inB 0 0 n = decide (n = 0) := in_i 0 n
theorem range_all {α : Type} (l : List α) (d : α) (f : α → Bool) : (List.range l.length).all (fun j => f (l.getD j d)) = l.all f := by
  rw [Bool.eq_iff_iff]
  simp only [List.all_eq_true, List.mem_range]
  constructor
  · intro h x hx
    obtain ⟨i, hi, rfl⟩ := List.getElem_of_mem hx
    have := h i hi
    rwa [List.getD_eq_getElem?_getD, List.getElem?_eq_getElem hi] at this
  · intro h i hi
    rw [List.getD_eq_getElem?_getD, List.getElem?_eq_getElem hi]
    exact h _ (List.getElem_mem hi)
theorem getD_at {α : Type} (l : List α) (d : α) (j : Nat) (h : j < l.length) : l.getD j d = l[j] := by
  rw [List.getD_eq_getElem?_getD, List.getElem?_eq_getElem h]; rfl
theorem ty_shape0  : PCalls Tryz.prog 110 [.con (.int .i64 0)] (fun r => r = .agg [.fn 164 [], .con (.int .i64 0), .con (.int .i64 0), .con (.int .i64 0), .con (.int .i64 0), .con (.int .i64 0), .con (.int .i64 0), .con (.int .i64 0), .con (.int .i64 0)]) := by
  refine a110 _ _ ?_
  unfold p110
  refine ⟨_, _, _, _, _, _, _, _, call_p (enters_of Tryz.func163 (by kernel_rfl) rfl) any_p rfl ?_⟩
  refine br_i (fun _ => ?_) (fun h => absurd h (by decide))
  exact ⟨rfl, rfl⟩
theorem ty_shape1  : PCalls Tryz.prog 110 [.con (.int .i64 1)] (fun r => r = .agg [.fn 164 [], .con (.int .i64 0), .con (.int .i64 0), .con (.int .i64 0), .con (.int .i64 0), .con (.int .i64 0), .con (.int .i64 0), .con (.int .i64 0), .con (.int .i64 0)]) := by
  refine a110 _ _ ?_
  unfold p110
  refine ⟨_, _, _, _, _, _, _, _, call_p (enters_of Tryz.func163 (by kernel_rfl) rfl) any_p rfl ?_⟩
  refine br_i (fun h => absurd h (by decide)) (fun _ => ?_)
  refine br_i (fun _ => ?_) (fun h => absurd h (by decide))
  exact ⟨rfl, rfl⟩
theorem ty_shape2  : PCalls Tryz.prog 110 [.con (.int .i64 2)] (fun r => r = .agg [.fn 82 [], .con (.int .i64 0), .con (.int .i64 0), .con (.int .i64 0), .con (.int .i64 0), .con (.int .i64 0), .con (.int .i64 0), .con (.int .i64 0), .con (.int .i64 0)]) := by
  refine a110 _ _ ?_
  unfold p110
  refine ⟨_, _, _, _, _, _, _, _, call_p (enters_of Tryz.func163 (by kernel_rfl) rfl) any_p rfl ?_⟩
  refine br_i (fun h => absurd h (by decide)) (fun _ => ?_)
  refine br_i (fun h => absurd h (by decide)) (fun _ => ?_)
  refine br_i (fun _ => ?_) (fun h => absurd h (by decide))
  exact ⟨rfl, rfl⟩
theorem ty_shape3  : PCalls Tryz.prog 110 [.con (.int .i64 3)] (fun r => r = .agg [.fn 164 [], .con (.int .i64 0), .con (.int .i64 0), .con (.int .i64 0), .con (.int .i64 0), .con (.int .i64 2), .con (.int .i64 6), .con (.int .i64 0), .con (.int .i64 0)]) := by
  refine a110 _ _ ?_
  unfold p110
  refine ⟨_, _, _, _, _, _, _, _, call_p (enters_of Tryz.func163 (by kernel_rfl) rfl) any_p rfl ?_⟩
  refine br_i (fun h => absurd h (by decide)) (fun _ => ?_)
  refine br_i (fun h => absurd h (by decide)) (fun _ => ?_)
  refine br_i (fun h => absurd h (by decide)) (fun _ => ?_)
  refine br_i (fun _ => ?_) (fun h => absurd h (by decide))
  refine ⟨_, _, call_p (enters_of Tryz.func33 (by kernel_rfl) rfl) (from_p 2 6) rfl ?_⟩
  exact ⟨rfl, rfl⟩
theorem ty_shape_no (k : Int)  (h0 : k ≠ 0) (h1 : k ≠ 1) (h2 : k ≠ 2) (h3 : k ≠ 3) : PCalls Tryz.prog 110 [.con (.int .i64 k)] (fun r => r = .agg [.fn 195 [], .con (.int .i64 0), .con (.int .i64 0), .con (.int .i64 0), .con (.int .i64 0), .con (.int .i64 0), .con (.int .i64 0), .con (.int .i64 0), .con (.int .i64 0)]) := by
  refine a110 _ _ ?_
  unfold p110
  refine ⟨_, _, _, _, _, _, _, _, call_p (enters_of Tryz.func163 (by kernel_rfl) rfl) any_p rfl ?_⟩
  refine br_i (fun h => absurd (by simpa using h) h0) (fun _ => ?_)
  refine br_i (fun h => absurd (by simpa using h) h1) (fun _ => ?_)
  refine br_i (fun h => absurd (by simpa using h) h2) (fun _ => ?_)
  refine br_i (fun h => absurd (by simpa using h) h3) (fun _ => ?_)
  exact ⟨rfl, rfl⟩
theorem pt_shape0  : PCalls Tryz.prog 106 [.con (.int .i64 0)] (fun r => r = .agg [.fn 164 [], .con (.int .i64 0), .con (.int .i64 0), .con (.int .i64 0), .con (.int .i64 0), .con (.int .i64 0), .con (.int .i64 0), .con (.int .i64 0), .con (.int .i64 0)]) := by
  refine a106 _ _ ?_
  unfold p106
  refine ⟨_, _, _, _, _, _, _, _, call_p (enters_of Tryz.func163 (by kernel_rfl) rfl) any_p rfl ?_⟩
  refine br_i (fun _ => ?_) (fun h => absurd h (by decide))
  exact ⟨rfl, rfl⟩
theorem pt_shape1  : PCalls Tryz.prog 106 [.con (.int .i64 1)] (fun r => r = .agg [.fn 92 [], .con (.int .i64 0), .con (.int .i64 0), .con (.int .i64 0), .con (.int .i64 0), .con (.int .i64 0), .con (.int .i64 0), .con (.int .i64 0), .con (.int .i64 0)]) := by
  refine a106 _ _ ?_
  unfold p106
  refine ⟨_, _, _, _, _, _, _, _, call_p (enters_of Tryz.func163 (by kernel_rfl) rfl) any_p rfl ?_⟩
  refine br_i (fun h => absurd h (by decide)) (fun _ => ?_)
  refine br_i (fun _ => ?_) (fun h => absurd h (by decide))
  exact ⟨rfl, rfl⟩
theorem pt_shape2  : PCalls Tryz.prog 106 [.con (.int .i64 2)] (fun r => r = .agg [.fn 164 [], .con (.int .i64 (-4611686018427387903)), .con (.int .i64 4611686018427387903), .con (.int .i64 0), .con (.int .i64 0), .con (.int .i64 0), .con (.int .i64 0), .con (.int .i64 0), .con (.int .i64 0)]) := by
  refine a106 _ _ ?_
  unfold p106
  refine ⟨_, _, _, _, _, _, _, _, call_p (enters_of Tryz.func163 (by kernel_rfl) rfl) any_p rfl ?_⟩
  refine br_i (fun h => absurd h (by decide)) (fun _ => ?_)
  refine br_i (fun h => absurd h (by decide)) (fun _ => ?_)
  refine br_i (fun _ => ?_) (fun h => absurd h (by decide))
  refine ⟨_, _, call_p (enters_of Tryz.func33 (by kernel_rfl) rfl) (from_p (-4611686018427387903) 4611686018427387903) rfl ?_⟩
  exact ⟨rfl, rfl⟩
theorem pt_shape3  : PCalls Tryz.prog 106 [.con (.int .i64 3)] (fun r => r = .agg [.fn 156 [], .con (.int .i64 0), .con (.int .i64 0), .con (.int .i64 0), .con (.int .i64 0), .con (.int .i64 0), .con (.int .i64 6), .con (.int .i64 0), .con (.int .i64 0)]) := by
  refine a106 _ _ ?_
  unfold p106
  refine ⟨_, _, _, _, _, _, _, _, call_p (enters_of Tryz.func163 (by kernel_rfl) rfl) any_p rfl ?_⟩
  refine br_i (fun h => absurd h (by decide)) (fun _ => ?_)
  refine br_i (fun h => absurd h (by decide)) (fun _ => ?_)
  refine br_i (fun h => absurd h (by decide)) (fun _ => ?_)
  refine br_i (fun _ => ?_) (fun h => absurd h (by decide))
  refine ⟨_, _, call_p (enters_of Tryz.func33 (by kernel_rfl) rfl) (from_p 0 6) rfl ?_⟩
  exact ⟨rfl, rfl⟩
theorem pt_shape4  : PCalls Tryz.prog 106 [.con (.int .i64 4)] (fun r => r = .agg [.fn 164 [], .con (.int .i64 0), .con (.int .i64 0), .con (.int .i64 0), .con (.int .i64 0), .con (.int .i64 2), .con (.int .i64 6), .con (.int .i64 0), .con (.int .i64 0)]) := by
  refine a106 _ _ ?_
  unfold p106
  refine ⟨_, _, _, _, _, _, _, _, call_p (enters_of Tryz.func163 (by kernel_rfl) rfl) any_p rfl ?_⟩
  refine br_i (fun h => absurd h (by decide)) (fun _ => ?_)
  refine br_i (fun h => absurd h (by decide)) (fun _ => ?_)
  refine br_i (fun h => absurd h (by decide)) (fun _ => ?_)
  refine br_i (fun h => absurd h (by decide)) (fun _ => ?_)
  refine br_i (fun _ => ?_) (fun h => absurd h (by decide))
  refine ⟨_, _, call_p (enters_of Tryz.func33 (by kernel_rfl) rfl) (from_p 2 6) rfl ?_⟩
  exact ⟨rfl, rfl⟩
theorem pt_shape_no (k : Int)  (h0 : k ≠ 0) (h1 : k ≠ 1) (h2 : k ≠ 2) (h3 : k ≠ 3) (h4 : k ≠ 4) : PCalls Tryz.prog 106 [.con (.int .i64 k)] (fun r => r = .agg [.fn 195 [], .con (.int .i64 0), .con (.int .i64 0), .con (.int .i64 0), .con (.int .i64 0), .con (.int .i64 0), .con (.int .i64 0), .con (.int .i64 0), .con (.int .i64 0)]) := by
  refine a106 _ _ ?_
  unfold p106
  refine ⟨_, _, _, _, _, _, _, _, call_p (enters_of Tryz.func163 (by kernel_rfl) rfl) any_p rfl ?_⟩
  refine br_i (fun h => absurd (by simpa using h) h0) (fun _ => ?_)
  refine br_i (fun h => absurd (by simpa using h) h1) (fun _ => ?_)
  refine br_i (fun h => absurd (by simpa using h) h2) (fun _ => ?_)
  refine br_i (fun h => absurd (by simpa using h) h3) (fun _ => ?_)
  refine br_i (fun h => absurd (by simpa using h) h4) (fun _ => ?_)
  exact ⟨rfl, rfl⟩
theorem ex_shape0 (m : Int) : PCalls Tryz.prog 100 [.con (.int .i64 0), .con (.int .i64 m)] (fun r => r = .agg [.fn 164 [], .con (.int .i64 (-4611686018427387903)), .con (.int .i64 4611686018427387903), .con (.int .i64 0), .con (.int .i64 0), .con (.int .i64 0), .con (.int .i64 0), .con (.int .i64 0), .con (.int .i64 0)]) := by
  refine a100 _ _ _ ?_
  unfold p100
  refine ⟨_, _, _, _, _, _, _, _, call_p (enters_of Tryz.func163 (by kernel_rfl) rfl) any_p rfl ?_⟩
  refine br_i (fun _ => ?_) (fun h => absurd h (by decide))
  refine ⟨_, _, call_p (enters_of Tryz.func33 (by kernel_rfl) rfl) (from_p (-4611686018427387903) 4611686018427387903) rfl ?_⟩
  exact ⟨rfl, rfl⟩
theorem ex_shape1 (m : Int) : PCalls Tryz.prog 100 [.con (.int .i64 1), .con (.int .i64 m)] (fun r => r = .agg [.fn 164 [], .con (.int .i64 0), .con (.int .i64 0), .con (.int .i64 0), .con (.int .i64 64), .con (.int .i64 0), .con (.int .i64 0), .con (.int .i64 0), .con (.int .i64 0)]) := by
  refine a100 _ _ _ ?_
  unfold p100
  refine ⟨_, _, _, _, _, _, _, _, call_p (enters_of Tryz.func163 (by kernel_rfl) rfl) any_p rfl ?_⟩
  refine br_i (fun h => absurd h (by decide)) (fun _ => ?_)
  refine br_i (fun _ => ?_) (fun h => absurd h (by decide))
  refine ⟨_, _, call_p (enters_of Tryz.func33 (by kernel_rfl) rfl) (from_p 0 64) rfl ?_⟩
  exact ⟨rfl, rfl⟩
theorem ex_shape2 (m : Int) : PCalls Tryz.prog 100 [.con (.int .i64 2), .con (.int .i64 m)] (fun r => r = .agg [.fn 165 [], .con (.int .i64 0), .con (.int .i64 0), .con (.int .i64 0), .con (.int .i64 0), .con (.int .i64 0), .con (.int .i64 0), .con (.int .i64 0), .con (.int .i64 0)]) := by
  refine a100 _ _ _ ?_
  unfold p100
  refine ⟨_, _, _, _, _, _, _, _, call_p (enters_of Tryz.func163 (by kernel_rfl) rfl) any_p rfl ?_⟩
  refine br_i (fun h => absurd h (by decide)) (fun _ => ?_)
  refine br_i (fun h => absurd h (by decide)) (fun _ => ?_)
  refine br_i (fun _ => ?_) (fun h => absurd h (by decide))
  exact ⟨rfl, rfl⟩
theorem ex_shape3 (m : Int) : PCalls Tryz.prog 100 [.con (.int .i64 3), .con (.int .i64 m)] (fun r => r = .agg [.fn 156 [], .con (.int .i64 0), .con (.int .i64 0), .con (.int .i64 0), .con (.int .i64 0), .con (.int .i64 0), .con (.int .i64 6), .con (.int .i64 0), .con (.int .i64 0)]) := by
  refine a100 _ _ _ ?_
  unfold p100
  refine ⟨_, _, _, _, _, _, _, _, call_p (enters_of Tryz.func163 (by kernel_rfl) rfl) any_p rfl ?_⟩
  refine br_i (fun h => absurd h (by decide)) (fun _ => ?_)
  refine br_i (fun h => absurd h (by decide)) (fun _ => ?_)
  refine br_i (fun h => absurd h (by decide)) (fun _ => ?_)
  refine br_i (fun _ => ?_) (fun h => absurd h (by decide))
  refine ⟨_, _, call_p (enters_of Tryz.func33 (by kernel_rfl) rfl) (from_p 0 6) rfl ?_⟩
  exact ⟨rfl, rfl⟩
theorem ex_shape4 (m : Int) : PCalls Tryz.prog 100 [.con (.int .i64 4), .con (.int .i64 m)] (fun r => r = .agg [.fn 164 [], .con (.int .i64 0), .con (.int .i64 0), .con (.int .i64 0), .con (.int .i64 0), .con (.int .i64 2), .con (.int .i64 6), .con (.int .i64 0), .con (.int .i64 0)]) := by
  refine a100 _ _ _ ?_
  unfold p100
  refine ⟨_, _, _, _, _, _, _, _, call_p (enters_of Tryz.func163 (by kernel_rfl) rfl) any_p rfl ?_⟩
  refine br_i (fun h => absurd h (by decide)) (fun _ => ?_)
  refine br_i (fun h => absurd h (by decide)) (fun _ => ?_)
  refine br_i (fun h => absurd h (by decide)) (fun _ => ?_)
  refine br_i (fun h => absurd h (by decide)) (fun _ => ?_)
  refine br_i (fun _ => ?_) (fun h => absurd h (by decide))
  refine ⟨_, _, call_p (enters_of Tryz.func33 (by kernel_rfl) rfl) (from_p 2 6) rfl ?_⟩
  exact ⟨rfl, rfl⟩
theorem ex_shape5 (m : Int) : PCalls Tryz.prog 100 [.con (.int .i64 5), .con (.int .i64 m)] (fun r => r = .agg [.fn 87 [], .con (.int .i64 0), .con (.int .i64 0), .con (.int .i64 0), .con (.int .i64 0), .con (.int .i64 1), .con (.int .i64 6), .con (.int .i64 0), .con (.int .i64 0)]) := by
  refine a100 _ _ _ ?_
  unfold p100
  refine ⟨_, _, _, _, _, _, _, _, call_p (enters_of Tryz.func163 (by kernel_rfl) rfl) any_p rfl ?_⟩
  refine br_i (fun h => absurd h (by decide)) (fun _ => ?_)
  refine br_i (fun h => absurd h (by decide)) (fun _ => ?_)
  refine br_i (fun h => absurd h (by decide)) (fun _ => ?_)
  refine br_i (fun h => absurd h (by decide)) (fun _ => ?_)
  refine br_i (fun h => absurd h (by decide)) (fun _ => ?_)
  refine br_i (fun _ => ?_) (fun h => absurd h (by decide))
  refine ⟨_, _, call_p (enters_of Tryz.func33 (by kernel_rfl) rfl) (from_p 1 6) rfl ?_⟩
  exact ⟨rfl, rfl⟩
theorem ex_shape6 (m : Int) : PCalls Tryz.prog 100 [.con (.int .i64 6), .con (.int .i64 m)] (fun r => r = .agg [.fn 92 [], .con (.int .i64 0), .con (.int .i64 0), .con (.int .i64 0), .con (.int .i64 0), .con (.int .i64 2), .con (.int .i64 2), .con (.int .i64 0), .con (.int .i64 0)]) := by
  refine a100 _ _ _ ?_
  unfold p100
  refine ⟨_, _, _, _, _, _, _, _, call_p (enters_of Tryz.func163 (by kernel_rfl) rfl) any_p rfl ?_⟩
  refine br_i (fun h => absurd h (by decide)) (fun _ => ?_)
  refine br_i (fun h => absurd h (by decide)) (fun _ => ?_)
  refine br_i (fun h => absurd h (by decide)) (fun _ => ?_)
  refine br_i (fun h => absurd h (by decide)) (fun _ => ?_)
  refine br_i (fun h => absurd h (by decide)) (fun _ => ?_)
  refine br_i (fun h => absurd h (by decide)) (fun _ => ?_)
  refine br_i (fun _ => ?_) (fun h => absurd h (by decide))
  refine ⟨_, _, call_p (enters_of Tryz.func166 (by kernel_rfl) rfl) (just_p 2) rfl ?_⟩
  exact ⟨rfl, rfl⟩
theorem ex_shape7 (m : Int) : PCalls Tryz.prog 100 [.con (.int .i64 7), .con (.int .i64 m)] (fun r => r = .agg [.fn 164 [], .con (.int .i64 0), .con (.int .i64 0), .con (.int .i64 0), .con (.int .i64 0), .con (.int .i64 3), .con (.int .i64 3), .con (.int .i64 0), .con (.int .i64 0)]) := by
  refine a100 _ _ _ ?_
  unfold p100
  refine ⟨_, _, _, _, _, _, _, _, call_p (enters_of Tryz.func163 (by kernel_rfl) rfl) any_p rfl ?_⟩
  refine br_i (fun h => absurd h (by decide)) (fun _ => ?_)
  refine br_i (fun h => absurd h (by decide)) (fun _ => ?_)
  refine br_i (fun h => absurd h (by decide)) (fun _ => ?_)
  refine br_i (fun h => absurd h (by decide)) (fun _ => ?_)
  refine br_i (fun h => absurd h (by decide)) (fun _ => ?_)
  refine br_i (fun h => absurd h (by decide)) (fun _ => ?_)
  refine br_i (fun h => absurd h (by decide)) (fun _ => ?_)
  refine br_i (fun _ => ?_) (fun h => absurd h (by decide))
  refine ⟨_, _, call_p (enters_of Tryz.func166 (by kernel_rfl) rfl) (just_p 3) rfl ?_⟩
  exact ⟨rfl, rfl⟩
theorem ex_shape8 (m : Int) : PCalls Tryz.prog 100 [.con (.int .i64 8), .con (.int .i64 m)] (fun r => r = .agg [.fn 164 [], .con (.int .i64 0), .con (.int .i64 0), .con (.int .i64 0), .con (.int .i64 0), .con (.int .i64 1), .con (.int .i64 1), .con (.int .i64 1), .con (.int .i64 32)]) := by
  refine a100 _ _ _ ?_
  unfold p100
  refine ⟨_, _, _, _, _, _, _, _, call_p (enters_of Tryz.func163 (by kernel_rfl) rfl) any_p rfl ?_⟩
  refine br_i (fun h => absurd h (by decide)) (fun _ => ?_)
  refine br_i (fun h => absurd h (by decide)) (fun _ => ?_)
  refine br_i (fun h => absurd h (by decide)) (fun _ => ?_)
  refine br_i (fun h => absurd h (by decide)) (fun _ => ?_)
  refine br_i (fun h => absurd h (by decide)) (fun _ => ?_)
  refine br_i (fun h => absurd h (by decide)) (fun _ => ?_)
  refine br_i (fun h => absurd h (by decide)) (fun _ => ?_)
  refine br_i (fun h => absurd h (by decide)) (fun _ => ?_)
  refine br_i (fun _ => ?_) (fun h => absurd h (by decide))
  refine ⟨_, _, call_p (enters_of Tryz.func166 (by kernel_rfl) rfl) (just_p 1) rfl ?_⟩
  refine ⟨_, _, call_p (enters_of Tryz.func33 (by kernel_rfl) rfl) (from_p 1 32) rfl ?_⟩
  exact ⟨rfl, rfl⟩
theorem ex_shape9 (m : Int) : PCalls Tryz.prog 100 [.con (.int .i64 9), .con (.int .i64 m)] (fun r => r = .agg [.fn 164 [], .con (.int .i64 0), .con (.int .i64 11), .con (.int .i64 0), .con (.int .i64 0), .con (.int .i64 (argsOf m)), .con (.int .i64 (argsOf m)), .con (.int .i64 0), .con (.int .i64 0)]) := by
  refine a100 _ _ _ ?_
  unfold p100
  refine ⟨_, _, _, _, _, _, _, _, call_p (enters_of Tryz.func163 (by kernel_rfl) rfl) any_p rfl ?_⟩
  refine br_i (fun h => absurd h (by decide)) (fun _ => ?_)
  refine br_i (fun h => absurd h (by decide)) (fun _ => ?_)
  refine br_i (fun h => absurd h (by decide)) (fun _ => ?_)
  refine br_i (fun h => absurd h (by decide)) (fun _ => ?_)
  refine br_i (fun h => absurd h (by decide)) (fun _ => ?_)
  refine br_i (fun h => absurd h (by decide)) (fun _ => ?_)
  refine br_i (fun h => absurd h (by decide)) (fun _ => ?_)
  refine br_i (fun h => absurd h (by decide)) (fun _ => ?_)
  refine br_i (fun h => absurd h (by decide)) (fun _ => ?_)
  refine br_i (fun _ => ?_) (fun h => absurd h (by decide))
  refine ⟨_, _, call_p (enters_of Tryz.func33 (by kernel_rfl) rfl) (from_p 0 11) rfl ?_⟩
  refine ⟨_, call_p (enters_of Tryz.func167 (by kernel_rfl) rfl) (operands_p m) rfl ?_⟩
  refine ⟨_, _, call_p (enters_of Tryz.func166 (by kernel_rfl) rfl) (just_p (argsOf m)) rfl ?_⟩
  exact ⟨rfl, rfl⟩
theorem ex_shape10 (m : Int) : PCalls Tryz.prog 100 [.con (.int .i64 10), .con (.int .i64 m)] (fun r => r = .agg [.fn 92 [], .con (.int .i64 0), .con (.int .i64 1000), .con (.int .i64 0), .con (.int .i64 0), .con (.int .i64 2), .con (.int .i64 2), .con (.int .i64 0), .con (.int .i64 0)]) := by
  refine a100 _ _ _ ?_
  unfold p100
  refine ⟨_, _, _, _, _, _, _, _, call_p (enters_of Tryz.func163 (by kernel_rfl) rfl) any_p rfl ?_⟩
  refine br_i (fun h => absurd h (by decide)) (fun _ => ?_)
  refine br_i (fun h => absurd h (by decide)) (fun _ => ?_)
  refine br_i (fun h => absurd h (by decide)) (fun _ => ?_)
  refine br_i (fun h => absurd h (by decide)) (fun _ => ?_)
  refine br_i (fun h => absurd h (by decide)) (fun _ => ?_)
  refine br_i (fun h => absurd h (by decide)) (fun _ => ?_)
  refine br_i (fun h => absurd h (by decide)) (fun _ => ?_)
  refine br_i (fun h => absurd h (by decide)) (fun _ => ?_)
  refine br_i (fun h => absurd h (by decide)) (fun _ => ?_)
  refine br_i (fun h => absurd h (by decide)) (fun _ => ?_)
  refine br_i (fun _ => ?_) (fun h => absurd h (by decide))
  refine ⟨_, _, call_p (enters_of Tryz.func33 (by kernel_rfl) rfl) (from_p 0 1000) rfl ?_⟩
  refine ⟨_, _, call_p (enters_of Tryz.func166 (by kernel_rfl) rfl) (just_p 2) rfl ?_⟩
  exact ⟨rfl, rfl⟩
theorem ex_shape_no (k : Int) (m : Int) (h0 : k ≠ 0) (h1 : k ≠ 1) (h2 : k ≠ 2) (h3 : k ≠ 3) (h4 : k ≠ 4) (h5 : k ≠ 5) (h6 : k ≠ 6) (h7 : k ≠ 7) (h8 : k ≠ 8) (h9 : k ≠ 9) (h10 : k ≠ 10) : PCalls Tryz.prog 100 [.con (.int .i64 k), .con (.int .i64 m)] (fun r => r = .agg [.fn 195 [], .con (.int .i64 0), .con (.int .i64 0), .con (.int .i64 0), .con (.int .i64 0), .con (.int .i64 0), .con (.int .i64 0), .con (.int .i64 0), .con (.int .i64 0)]) := by
  refine a100 _ _ _ ?_
  unfold p100
  refine ⟨_, _, _, _, _, _, _, _, call_p (enters_of Tryz.func163 (by kernel_rfl) rfl) any_p rfl ?_⟩
  refine br_i (fun h => absurd (by simpa using h) h0) (fun _ => ?_)
  refine br_i (fun h => absurd (by simpa using h) h1) (fun _ => ?_)
  refine br_i (fun h => absurd (by simpa using h) h2) (fun _ => ?_)
  refine br_i (fun h => absurd (by simpa using h) h3) (fun _ => ?_)
  refine br_i (fun h => absurd (by simpa using h) h4) (fun _ => ?_)
  refine br_i (fun h => absurd (by simpa using h) h5) (fun _ => ?_)
  refine br_i (fun h => absurd (by simpa using h) h6) (fun _ => ?_)
  refine br_i (fun h => absurd (by simpa using h) h7) (fun _ => ?_)
  refine br_i (fun h => absurd (by simpa using h) h8) (fun _ => ?_)
  refine br_i (fun h => absurd (by simpa using h) h9) (fun _ => ?_)
  refine br_i (fun h => absurd (by simpa using h) h10) (fun _ => ?_)
  exact ⟨rfl, rfl⟩
theorem fit_ty' (t : Ty) : smallTy t → ∀ D : Int, 0 ≤ D → D ≤ 64 → PCalls Tryz.prog 49 [.agg (tyP t), .con (.int .i64 D)] (fun r => r = .con (.bool (fitTy D.toNat t))) := by
  induction t using Ty.ind with
  | h k n ps ih =>
  intro hs D h0 h1
  unfold smallTy at hs
  obtain ⟨hn, hlen, hss⟩ := hs
  refine a49 _ _ _ _ _ ?_
  unfold p49
  rw [tyPs_len]
  by_cases hd : 0 < D
  case neg =>
    rw [show D.toNat = 0 by omega, fitTy]
    by_cases hk0 : k = 0
    · subst hk0
      refine Or.inr (Or.inl ?_)
      exact ⟨_, _, _, _, _, _, _, _, call_p (enters_of Tryz.func110 (by kernel_rfl) rfl) (ty_shape0) rfl (br_i (fun hf => absurd (by simpa using hf) hd) (fun _ => ⟨rfl, rfl⟩))⟩
    by_cases hk1 : k = 1
    · subst hk1
      refine Or.inr (Or.inl ?_)
      exact ⟨_, _, _, _, _, _, _, _, call_p (enters_of Tryz.func110 (by kernel_rfl) rfl) (ty_shape1) rfl (br_i (fun hf => absurd (by simpa using hf) hd) (fun _ => ⟨rfl, rfl⟩))⟩
    by_cases hk2 : k = 2
    · subst hk2
      refine Or.inr (Or.inr (?_))
      exact ⟨_, _, _, _, _, _, _, _, call_p (enters_of Tryz.func110 (by kernel_rfl) rfl) (ty_shape2) rfl (br_i (fun hf => absurd (by simpa using hf) hd) (fun _ => ⟨rfl, rfl⟩))⟩
    by_cases hk3 : k = 3
    · subst hk3
      refine Or.inr (Or.inl ?_)
      exact ⟨_, _, _, _, _, _, _, _, call_p (enters_of Tryz.func110 (by kernel_rfl) rfl) (ty_shape3) rfl (br_i (fun hf => absurd (by simpa using hf) hd) (fun _ => ⟨rfl, rfl⟩))⟩
    refine Or.inl ?_
    exact ⟨_, _, _, _, _, _, _, _, call_p (enters_of Tryz.func110 (by kernel_rfl) rfl) (ty_shape_no k hk0 hk1 hk2 hk3) rfl (br_i (fun hf => absurd (by simpa using hf) hd) (fun _ => ⟨rfl, rfl⟩))⟩
  rw [fitTy_pos' hd]
  have hA : PCalls Tryz.prog 111 [.sl (tyPs ps), .fn 112 [.ept [.con (.int .i64 D)] 0]] (fun r => r = .con (.bool (ps.all (fitTy (D.toNat - 1))))) := by
    rw [← range_all ps Ty.zero (fitTy (D.toNat - 1))]
    refine all_a (tyPs ps) ps.length (tyPs_len ps) (by omega) D (fun j => fitTy (D.toNat - 1) (ps.getD j Ty.zero)) (fun j hj => ?_)
    have hx := tyPs_get ps j hj
    have hi := ih j hj (smallTys_get ps hss j hj) (D - 1) (by omega) (by omega)
    rw [show (D - 1).toNat = D.toNat - 1 by omega] at hi
    rw [getD_at ps Ty.zero j hj]
    obtain ⟨k', n', ps', hp⟩ := ty_mk ps[j]
    rw [hp] at hx hi ⊢
    refine ⟨_, _, _, hx, a112a _ _ _ _ _ ?_⟩
    unfold p112a
    rw [wrap_id (n := D - 1) (by omega) (by omega)]
    exact ⟨_, call_p (enters_of Tryz.func49 (by kernel_rfl) rfl) hi rfl ⟨rfl, rfl⟩⟩
  have eA := enters_of Tryz.func111 (by kernel_rfl) rfl
  obtain ⟨V, hV0⟩ : ∃ V, (if k = 0 ∨ k = 1 then noneB n && decide (ps.length = 0) else if k = 2 then dataB n && decide (ps.length = 0) else if k = 3 then noneB n && inB 2 6 ps.length else false) = V := ⟨_, rfl⟩
  rw [hV0]
  by_cases hk0 : k = 0
  · subst hk0
    have hV : V = (noneB n && inB 0 0 (ps.length : Int)) := by rw [← hV0]; simp [in_0]
    refine Or.inr (Or.inl ?_)
    refine ⟨_, _, _, _, _, _, _, _, call_p (enters_of Tryz.func110 (by kernel_rfl) rfl) ty_shape0 rfl ?_⟩
    refine br_i (fun _ => ?_) (fun hf => absurd hd (by simpa using hf))
    refine ⟨_, call_p (enters_of Tryz.func164 (by kernel_rfl) rfl) (empty_p n) rfl ?_⟩
    refine br_i (fun hx => ?_) (fun hx => ⟨by rw [hV, hx]; simp, rfl⟩)
    rw [hx, Bool.true_and] at hV
    clear hx
    refine ⟨_, call_p (enters_of Tryz.func34 (by kernel_rfl) rfl) (many_p 0 0 ps.length) rfl ?_⟩
    refine br_i (fun hx => ?_) (fun hx => ⟨by rw [hV, hx]; simp, rfl⟩)
    rw [hx] at hV
    clear hx
    exact ⟨_, call_p eA hA rfl ⟨by rw [hV, Bool.true_and], rfl⟩⟩
  by_cases hk1 : k = 1
  · subst hk1
    have hV : V = (noneB n && inB 0 0 (ps.length : Int)) := by rw [← hV0]; simp [in_0]
    refine Or.inr (Or.inl ?_)
    refine ⟨_, _, _, _, _, _, _, _, call_p (enters_of Tryz.func110 (by kernel_rfl) rfl) ty_shape1 rfl ?_⟩
    refine br_i (fun _ => ?_) (fun hf => absurd hd (by simpa using hf))
    refine ⟨_, call_p (enters_of Tryz.func164 (by kernel_rfl) rfl) (empty_p n) rfl ?_⟩
    refine br_i (fun hx => ?_) (fun hx => ⟨by rw [hV, hx]; simp, rfl⟩)
    rw [hx, Bool.true_and] at hV
    clear hx
    refine ⟨_, call_p (enters_of Tryz.func34 (by kernel_rfl) rfl) (many_p 0 0 ps.length) rfl ?_⟩
    refine br_i (fun hx => ?_) (fun hx => ⟨by rw [hV, hx]; simp, rfl⟩)
    rw [hx] at hV
    clear hx
    exact ⟨_, call_p eA hA rfl ⟨by rw [hV, Bool.true_and], rfl⟩⟩
  by_cases hk2 : k = 2
  · subst hk2
    have hV : V = (dataB n && inB 0 0 (ps.length : Int)) := by rw [← hV0]; simp [in_0]
    refine Or.inr (Or.inr (?_))
    refine ⟨_, _, _, _, _, _, _, _, call_p (enters_of Tryz.func110 (by kernel_rfl) rfl) ty_shape2 rfl ?_⟩
    refine br_i (fun _ => ?_) (fun hf => absurd hd (by simpa using hf))
    refine ⟨_, call_p (enters_of Tryz.func82 (by kernel_rfl) rfl) (ofdata_p n hn) rfl ?_⟩
    refine br_i (fun hx => ?_) (fun hx => ⟨by rw [hV, hx]; simp, rfl⟩)
    rw [hx, Bool.true_and] at hV
    clear hx
    refine ⟨_, call_p (enters_of Tryz.func34 (by kernel_rfl) rfl) (many_p 0 0 ps.length) rfl ?_⟩
    refine br_i (fun hx => ?_) (fun hx => ⟨by rw [hV, hx]; simp, rfl⟩)
    rw [hx] at hV
    clear hx
    exact ⟨_, call_p eA hA rfl ⟨by rw [hV, Bool.true_and], rfl⟩⟩
  by_cases hk3 : k = 3
  · subst hk3
    have hV : V = (noneB n && inB 2 6 (ps.length : Int)) := by rw [← hV0]; simp [in_0]
    refine Or.inr (Or.inl ?_)
    refine ⟨_, _, _, _, _, _, _, _, call_p (enters_of Tryz.func110 (by kernel_rfl) rfl) ty_shape3 rfl ?_⟩
    refine br_i (fun _ => ?_) (fun hf => absurd hd (by simpa using hf))
    refine ⟨_, call_p (enters_of Tryz.func164 (by kernel_rfl) rfl) (empty_p n) rfl ?_⟩
    refine br_i (fun hx => ?_) (fun hx => ⟨by rw [hV, hx]; simp, rfl⟩)
    rw [hx, Bool.true_and] at hV
    clear hx
    refine ⟨_, call_p (enters_of Tryz.func34 (by kernel_rfl) rfl) (many_p 2 6 ps.length) rfl ?_⟩
    refine br_i (fun hx => ?_) (fun hx => ⟨by rw [hV, hx]; simp, rfl⟩)
    rw [hx] at hV
    clear hx
    exact ⟨_, call_p eA hA rfl ⟨by rw [hV, Bool.true_and], rfl⟩⟩
  have hV : V = false := by rw [← hV0]; simp [hk0, hk1, hk2, hk3]
  refine Or.inl ?_
  refine ⟨_, _, _, _, _, _, _, _, call_p (enters_of Tryz.func110 (by kernel_rfl) rfl) (ty_shape_no k hk0 hk1 hk2 hk3) rfl ?_⟩
  refine br_i (fun _ => ?_) (fun hf => absurd hd (by simpa using hf))
  refine ⟨_, call_p (enters_of Tryz.func195 (by kernel_rfl) rfl) (nothing_p n) rfl ?_⟩
  exact br_i (fun hx => by cases hx) (fun hx => ⟨by rw [hV]; rfl, rfl⟩)
theorem fit_tyF' (t : Ty) (hs : smallTy t) : PCalls Tryz.prog 18 [.agg (tyP t)] (fun r => r = .con (.bool (fitTy 64 t))) := by
  have h := fit_ty' t hs 64 (by omega) (by omega)
  obtain ⟨k', n', ps', hp⟩ := ty_mk t
  subst hp
  refine a18 _ _ _ _ ?_
  unfold p18
  exact ⟨_, call_p (enters_of Tryz.func49 (by kernel_rfl) rfl) h rfl ⟨rfl, rfl⟩⟩
theorem fit_pt' (t : Pt) : smallPt t → ∀ D : Int, 0 ≤ D → D ≤ 64 → PCalls Tryz.prog 47 [.agg (ptP t), .con (.int .i64 D)] (fun r => r = .con (.bool (fitPt D.toNat t))) := by
  induction t using Pt.ind with
  | h k li co n m ps ih =>
  intro hs D h0 h1
  unfold smallPt at hs
  obtain ⟨hn, hlen, hss⟩ := hs
  refine a47 _ _ _ _ _ _ _ _ ?_
  unfold p47
  rw [ptPs_len]
  by_cases hd : 0 < D
  case neg =>
    rw [show D.toNat = 0 by omega, fitPt]
    by_cases hk0 : k = 0
    · subst hk0
      refine Or.inr (Or.inl ?_)
      exact ⟨_, _, _, _, _, _, _, _, call_p (enters_of Tryz.func106 (by kernel_rfl) rfl) (pt_shape0) rfl (br_i (fun hf => absurd (by simpa using hf) hd) (fun _ => ⟨rfl, rfl⟩))⟩
    by_cases hk1 : k = 1
    · subst hk1
      refine Or.inr (Or.inr (Or.inl ?_))
      exact ⟨_, _, _, _, _, _, _, _, call_p (enters_of Tryz.func106 (by kernel_rfl) rfl) (pt_shape1) rfl (br_i (fun hf => absurd (by simpa using hf) hd) (fun _ => ⟨rfl, rfl⟩))⟩
    by_cases hk2 : k = 2
    · subst hk2
      refine Or.inr (Or.inl ?_)
      exact ⟨_, _, _, _, _, _, _, _, call_p (enters_of Tryz.func106 (by kernel_rfl) rfl) (pt_shape2) rfl (br_i (fun hf => absurd (by simpa using hf) hd) (fun _ => ⟨rfl, rfl⟩))⟩
    by_cases hk3 : k = 3
    · subst hk3
      refine Or.inr (Or.inr (Or.inr (?_)))
      exact ⟨_, _, _, _, _, _, _, _, call_p (enters_of Tryz.func106 (by kernel_rfl) rfl) (pt_shape3) rfl (br_i (fun hf => absurd (by simpa using hf) hd) (fun _ => ⟨rfl, rfl⟩))⟩
    by_cases hk4 : k = 4
    · subst hk4
      refine Or.inr (Or.inl ?_)
      exact ⟨_, _, _, _, _, _, _, _, call_p (enters_of Tryz.func106 (by kernel_rfl) rfl) (pt_shape4) rfl (br_i (fun hf => absurd (by simpa using hf) hd) (fun _ => ⟨rfl, rfl⟩))⟩
    refine Or.inl ?_
    exact ⟨_, _, _, _, _, _, _, _, call_p (enters_of Tryz.func106 (by kernel_rfl) rfl) (pt_shape_no k hk0 hk1 hk2 hk3 hk4) rfl (br_i (fun hf => absurd (by simpa using hf) hd) (fun _ => ⟨rfl, rfl⟩))⟩
  rw [fitPt_pos' hd]
  have hA : PCalls Tryz.prog 107 [.sl (ptPs ps), .fn 108 [.ept [.con (.int .i64 D)] 0]] (fun r => r = .con (.bool (ps.all (fitPt (D.toNat - 1))))) := by
    rw [← range_all ps Pt.zero (fitPt (D.toNat - 1))]
    refine all_c (ptPs ps) ps.length (ptPs_len ps) (by omega) D (fun j => fitPt (D.toNat - 1) (ps.getD j Pt.zero)) (fun j hj => ?_)
    have hx := ptPs_get ps j hj
    have hi := ih j hj (smallPts_get ps hss j hj) (D - 1) (by omega) (by omega)
    rw [show (D - 1).toNat = D.toNat - 1 by omega] at hi
    rw [getD_at ps Pt.zero j hj]
    obtain ⟨k', li', co', n', m', ps', hp⟩ := pt_mk ps[j]
    rw [hp] at hx hi ⊢
    refine ⟨_, _, _, _, _, _, hx, a108c _ _ _ _ _ _ _ _ ?_⟩
    unfold p108c
    rw [wrap_id (n := D - 1) (by omega) (by omega)]
    exact ⟨_, call_p (enters_of Tryz.func47 (by kernel_rfl) rfl) hi rfl ⟨rfl, rfl⟩⟩
  have eA := enters_of Tryz.func107 (by kernel_rfl) rfl
  obtain ⟨V, hV0⟩ : ∃ V, shapePt k n m ps.length = V := ⟨_, rfl⟩
  rw [hV0]
  by_cases hk0 : k = 0
  · subst hk0
    have hV : V = (noneB n && (inB 0 0 m && inB 0 0 (ps.length : Int))) := by rw [← hV0]; simp [shapePt, in_0, in_z, numB]
    refine Or.inr (Or.inl ?_)
    refine ⟨_, _, _, _, _, _, _, _, call_p (enters_of Tryz.func106 (by kernel_rfl) rfl) pt_shape0 rfl ?_⟩
    refine br_i (fun _ => ?_) (fun hf => absurd hd (by simpa using hf))
    refine ⟨_, call_p (enters_of Tryz.func164 (by kernel_rfl) rfl) (empty_p n) rfl ?_⟩
    refine br_i (fun hx => ?_) (fun hx => ⟨by rw [hV, hx]; simp, rfl⟩)
    rw [hx, Bool.true_and] at hV
    clear hx
    refine ⟨_, call_p (enters_of Tryz.func79 (by kernel_rfl) rfl) (has_p 0 0 m) rfl ?_⟩
    refine br_i (fun hx => ?_) (fun hx => ⟨by rw [hV, hx]; simp, rfl⟩)
    rw [hx, Bool.true_and] at hV
    clear hx
    refine ⟨_, call_p (enters_of Tryz.func34 (by kernel_rfl) rfl) (many_p 0 0 ps.length) rfl ?_⟩
    refine br_i (fun hx => ?_) (fun hx => ⟨by rw [hV, hx]; simp, rfl⟩)
    rw [hx] at hV
    clear hx
    exact ⟨_, call_p eA hA rfl ⟨by rw [hV, Bool.true_and], rfl⟩⟩
  by_cases hk1 : k = 1
  · subst hk1
    have hV : V = (namedB n false && (inB 0 0 m && inB 0 0 (ps.length : Int))) := by rw [← hV0]; simp [shapePt, in_0, in_z, numB]
    refine Or.inr (Or.inr (Or.inl ?_))
    refine ⟨_, _, _, _, _, _, _, _, call_p (enters_of Tryz.func106 (by kernel_rfl) rfl) pt_shape1 rfl ?_⟩
    refine br_i (fun _ => ?_) (fun hf => absurd hd (by simpa using hf))
    refine ⟨_, call_p (enters_of Tryz.func92 (by kernel_rfl) rfl) (small_p n hn) rfl ?_⟩
    refine br_i (fun hx => ?_) (fun hx => ⟨by rw [hV, hx]; simp, rfl⟩)
    rw [hx, Bool.true_and] at hV
    clear hx
    refine ⟨_, call_p (enters_of Tryz.func79 (by kernel_rfl) rfl) (has_p 0 0 m) rfl ?_⟩
    refine br_i (fun hx => ?_) (fun hx => ⟨by rw [hV, hx]; simp, rfl⟩)
    rw [hx, Bool.true_and] at hV
    clear hx
    refine ⟨_, call_p (enters_of Tryz.func34 (by kernel_rfl) rfl) (many_p 0 0 ps.length) rfl ?_⟩
    refine br_i (fun hx => ?_) (fun hx => ⟨by rw [hV, hx]; simp, rfl⟩)
    rw [hx] at hV
    clear hx
    exact ⟨_, call_p eA hA rfl ⟨by rw [hV, Bool.true_and], rfl⟩⟩
  by_cases hk2 : k = 2
  · subst hk2
    have hV : V = (noneB n && (inB (-4611686018427387903) 4611686018427387903 m && inB 0 0 (ps.length : Int))) := by rw [← hV0]; simp [shapePt, in_0, in_z, numB]
    refine Or.inr (Or.inl ?_)
    refine ⟨_, _, _, _, _, _, _, _, call_p (enters_of Tryz.func106 (by kernel_rfl) rfl) pt_shape2 rfl ?_⟩
    refine br_i (fun _ => ?_) (fun hf => absurd hd (by simpa using hf))
    refine ⟨_, call_p (enters_of Tryz.func164 (by kernel_rfl) rfl) (empty_p n) rfl ?_⟩
    refine br_i (fun hx => ?_) (fun hx => ⟨by rw [hV, hx]; simp, rfl⟩)
    rw [hx, Bool.true_and] at hV
    clear hx
    refine ⟨_, call_p (enters_of Tryz.func79 (by kernel_rfl) rfl) (has_p (-4611686018427387903) 4611686018427387903 m) rfl ?_⟩
    refine br_i (fun hx => ?_) (fun hx => ⟨by rw [hV, hx]; simp, rfl⟩)
    rw [hx, Bool.true_and] at hV
    clear hx
    refine ⟨_, call_p (enters_of Tryz.func34 (by kernel_rfl) rfl) (many_p 0 0 ps.length) rfl ?_⟩
    refine br_i (fun hx => ?_) (fun hx => ⟨by rw [hV, hx]; simp, rfl⟩)
    rw [hx] at hV
    clear hx
    exact ⟨_, call_p eA hA rfl ⟨by rw [hV, Bool.true_and], rfl⟩⟩
  by_cases hk3 : k = 3
  · subst hk3
    have hV : V = (namedB n true && (inB 0 0 m && inB 0 6 (ps.length : Int))) := by rw [← hV0]; simp [shapePt, in_0, in_z, numB]
    refine Or.inr (Or.inr (Or.inr (?_)))
    refine ⟨_, _, _, _, _, _, _, _, call_p (enters_of Tryz.func106 (by kernel_rfl) rfl) pt_shape3 rfl ?_⟩
    refine br_i (fun _ => ?_) (fun hf => absurd hd (by simpa using hf))
    refine ⟨_, call_p (enters_of Tryz.func156 (by kernel_rfl) rfl) (great_p n hn) rfl ?_⟩
    refine br_i (fun hx => ?_) (fun hx => ⟨by rw [hV, hx]; simp, rfl⟩)
    rw [hx, Bool.true_and] at hV
    clear hx
    refine ⟨_, call_p (enters_of Tryz.func79 (by kernel_rfl) rfl) (has_p 0 0 m) rfl ?_⟩
    refine br_i (fun hx => ?_) (fun hx => ⟨by rw [hV, hx]; simp, rfl⟩)
    rw [hx, Bool.true_and] at hV
    clear hx
    refine ⟨_, call_p (enters_of Tryz.func34 (by kernel_rfl) rfl) (many_p 0 6 ps.length) rfl ?_⟩
    refine br_i (fun hx => ?_) (fun hx => ⟨by rw [hV, hx]; simp, rfl⟩)
    rw [hx] at hV
    clear hx
    exact ⟨_, call_p eA hA rfl ⟨by rw [hV, Bool.true_and], rfl⟩⟩
  by_cases hk4 : k = 4
  · subst hk4
    have hV : V = (noneB n && (inB 0 0 m && inB 2 6 (ps.length : Int))) := by rw [← hV0]; simp [shapePt, in_0, in_z, numB]
    refine Or.inr (Or.inl ?_)
    refine ⟨_, _, _, _, _, _, _, _, call_p (enters_of Tryz.func106 (by kernel_rfl) rfl) pt_shape4 rfl ?_⟩
    refine br_i (fun _ => ?_) (fun hf => absurd hd (by simpa using hf))
    refine ⟨_, call_p (enters_of Tryz.func164 (by kernel_rfl) rfl) (empty_p n) rfl ?_⟩
    refine br_i (fun hx => ?_) (fun hx => ⟨by rw [hV, hx]; simp, rfl⟩)
    rw [hx, Bool.true_and] at hV
    clear hx
    refine ⟨_, call_p (enters_of Tryz.func79 (by kernel_rfl) rfl) (has_p 0 0 m) rfl ?_⟩
    refine br_i (fun hx => ?_) (fun hx => ⟨by rw [hV, hx]; simp, rfl⟩)
    rw [hx, Bool.true_and] at hV
    clear hx
    refine ⟨_, call_p (enters_of Tryz.func34 (by kernel_rfl) rfl) (many_p 2 6 ps.length) rfl ?_⟩
    refine br_i (fun hx => ?_) (fun hx => ⟨by rw [hV, hx]; simp, rfl⟩)
    rw [hx] at hV
    clear hx
    exact ⟨_, call_p eA hA rfl ⟨by rw [hV, Bool.true_and], rfl⟩⟩
  have hV : V = false := by rw [← hV0]; simp [shapePt, hk0, hk1, hk2, hk3, hk4]
  refine Or.inl ?_
  refine ⟨_, _, _, _, _, _, _, _, call_p (enters_of Tryz.func106 (by kernel_rfl) rfl) (pt_shape_no k hk0 hk1 hk2 hk3 hk4) rfl ?_⟩
  refine br_i (fun _ => ?_) (fun hf => absurd hd (by simpa using hf))
  refine ⟨_, call_p (enters_of Tryz.func195 (by kernel_rfl) rfl) (nothing_p n) rfl ?_⟩
  exact br_i (fun hx => by cases hx) (fun hx => ⟨by rw [hV]; rfl, rfl⟩)
theorem fit_ptF' (t : Pt) (hs : smallPt t) : PCalls Tryz.prog 16 [.agg (ptP t)] (fun r => r = .con (.bool (fitPt 64 t))) := by
  have h := fit_pt' t hs 64 (by omega) (by omega)
  obtain ⟨k', li', co', n', m', ps', hp⟩ := pt_mk t
  subst hp
  refine a16 _ _ _ _ _ _ _ ?_
  unfold p16
  exact ⟨_, call_p (enters_of Tryz.func47 (by kernel_rfl) rfl) h rfl ⟨rfl, rfl⟩⟩
set_option maxHeartbeats 2000000 in
theorem fit_ex' (t : Ex) : smallEx t → wfEx t → ∀ D : Int, 0 ≤ D → D ≤ 64 → PCalls Tryz.prog 45 [.agg (exP t), .con (.int .i64 D)] (fun r => r = .con (.bool (fitEx D.toNat t))) := by
  induction t using Ex.ind with
  | h k li co m b n ks ps bs ihk ihb =>
  intro hs hw D h0 h1
  unfold smallEx at hs
  unfold wfEx at hw
  obtain ⟨hpb, hwk, hwb⟩ := hw
  obtain ⟨hb3, hn, hlk, hlp, hlb, hsk, hsp, hsb⟩ := hs
  refine a45 _ _ _ _ _ _ _ _ _ _ ?_
  unfold p45
  rw [exPs_len, arPs_len bs ps hpb, show (byP b).length = b.length by simp [byP]]
  by_cases hd : 0 < D
  case neg =>
    rw [show D.toNat = 0 by omega, fitEx]
    by_cases hk0 : k = 0
    · subst hk0
      refine Or.inr (Or.inl ?_)
      exact ⟨_, _, _, _, _, _, _, _, call_p (enters_of Tryz.func100 (by kernel_rfl) rfl) (ex_shape0 m) rfl (br_i (fun hf => absurd (by simpa using hf) hd) (fun _ => ⟨rfl, rfl⟩))⟩
    by_cases hk1 : k = 1
    · subst hk1
      refine Or.inr (Or.inl ?_)
      exact ⟨_, _, _, _, _, _, _, _, call_p (enters_of Tryz.func100 (by kernel_rfl) rfl) (ex_shape1 m) rfl (br_i (fun hf => absurd (by simpa using hf) hd) (fun _ => ⟨rfl, rfl⟩))⟩
    by_cases hk2 : k = 2
    · subst hk2
      refine Or.inr (Or.inr (Or.inl ?_))
      exact ⟨_, _, _, _, _, _, _, _, call_p (enters_of Tryz.func100 (by kernel_rfl) rfl) (ex_shape2 m) rfl (br_i (fun hf => absurd (by simpa using hf) hd) (fun _ => ⟨rfl, rfl⟩))⟩
    by_cases hk3 : k = 3
    · subst hk3
      refine Or.inr (Or.inr (Or.inr (Or.inl ?_)))
      exact ⟨_, _, _, _, _, _, _, _, call_p (enters_of Tryz.func100 (by kernel_rfl) rfl) (ex_shape3 m) rfl (br_i (fun hf => absurd (by simpa using hf) hd) (fun _ => ⟨rfl, rfl⟩))⟩
    by_cases hk4 : k = 4
    · subst hk4
      refine Or.inr (Or.inl ?_)
      exact ⟨_, _, _, _, _, _, _, _, call_p (enters_of Tryz.func100 (by kernel_rfl) rfl) (ex_shape4 m) rfl (br_i (fun hf => absurd (by simpa using hf) hd) (fun _ => ⟨rfl, rfl⟩))⟩
    by_cases hk5 : k = 5
    · subst hk5
      refine Or.inr (Or.inr (Or.inr (Or.inr (Or.inl ?_))))
      exact ⟨_, _, _, _, _, _, _, _, call_p (enters_of Tryz.func100 (by kernel_rfl) rfl) (ex_shape5 m) rfl (br_i (fun hf => absurd (by simpa using hf) hd) (fun _ => ⟨rfl, rfl⟩))⟩
    by_cases hk6 : k = 6
    · subst hk6
      refine Or.inr (Or.inr (Or.inr (Or.inr (Or.inr (?_)))))
      exact ⟨_, _, _, _, _, _, _, _, call_p (enters_of Tryz.func100 (by kernel_rfl) rfl) (ex_shape6 m) rfl (br_i (fun hf => absurd (by simpa using hf) hd) (fun _ => ⟨rfl, rfl⟩))⟩
    by_cases hk7 : k = 7
    · subst hk7
      refine Or.inr (Or.inl ?_)
      exact ⟨_, _, _, _, _, _, _, _, call_p (enters_of Tryz.func100 (by kernel_rfl) rfl) (ex_shape7 m) rfl (br_i (fun hf => absurd (by simpa using hf) hd) (fun _ => ⟨rfl, rfl⟩))⟩
    by_cases hk8 : k = 8
    · subst hk8
      refine Or.inr (Or.inl ?_)
      exact ⟨_, _, _, _, _, _, _, _, call_p (enters_of Tryz.func100 (by kernel_rfl) rfl) (ex_shape8 m) rfl (br_i (fun hf => absurd (by simpa using hf) hd) (fun _ => ⟨rfl, rfl⟩))⟩
    by_cases hk9 : k = 9
    · subst hk9
      refine Or.inr (Or.inl ?_)
      exact ⟨_, _, _, _, _, _, _, _, call_p (enters_of Tryz.func100 (by kernel_rfl) rfl) (ex_shape9 m) rfl (br_i (fun hf => absurd (by simpa using hf) hd) (fun _ => ⟨rfl, rfl⟩))⟩
    by_cases hk10 : k = 10
    · subst hk10
      refine Or.inr (Or.inr (Or.inr (Or.inr (Or.inr (?_)))))
      exact ⟨_, _, _, _, _, _, _, _, call_p (enters_of Tryz.func100 (by kernel_rfl) rfl) (ex_shape10 m) rfl (br_i (fun hf => absurd (by simpa using hf) hd) (fun _ => ⟨rfl, rfl⟩))⟩
    refine Or.inl ?_
    exact ⟨_, _, _, _, _, _, _, _, call_p (enters_of Tryz.func100 (by kernel_rfl) rfl) (ex_shape_no k m hk0 hk1 hk2 hk3 hk4 hk5 hk6 hk7 hk8 hk9 hk10) rfl (br_i (fun hf => absurd (by simpa using hf) hd) (fun _ => ⟨rfl, rfl⟩))⟩
  rw [fitEx_pos' hd]
  have hA : PCalls Tryz.prog 101 [.sl (exPs ks), .fn 102 [.ept [.con (.int .i64 D)] 0]] (fun r => r = .con (.bool (ks.all (fitEx (D.toNat - 1))))) := by
    rw [← range_all ks Ex.zero (fitEx (D.toNat - 1))]
    refine all_d (exPs ks) ks.length (exPs_len ks) (by omega) D (fun j => fitEx (D.toNat - 1) (ks.getD j Ex.zero)) (fun j hj => ?_)
    have hx := exPs_get ks j hj
    have hi := ihk j hj (smallExs_get ks hsk j hj) (wfExs_at ks hwk j hj) (D - 1) (by omega) (by omega)
    rw [show (D - 1).toNat = D.toNat - 1 by omega] at hi
    rw [getD_at ks Ex.zero j hj]
    obtain ⟨k', li', co', m', b', n', ks', ps', bs', hp⟩ := ex_mk ks[j]
    rw [hp] at hx hi ⊢
    refine ⟨_, _, _, _, _, _, _, _, hx, a102d _ _ _ _ _ _ _ _ _ _ ?_⟩
    unfold p102d
    rw [wrap_id (n := D - 1) (by omega) (by omega)]
    exact ⟨_, call_p (enters_of Tryz.func45 (by kernel_rfl) rfl) hi rfl ⟨rfl, rfl⟩⟩
  have eA := enters_of Tryz.func101 (by kernel_rfl) rfl
  have hB : PCalls Tryz.prog 103 [.sl (arPs bs ps), .fn 104 [.ept [.con (.int .i64 D)] 0]] (fun r => r = .con (.bool (ps.all (fitPt (D.toNat - 1)) && bs.all (fitEx (D.toNat - 1))))) := by
    rw [← arms_all ps bs hpb Pt.zero Ex.zero]
    refine all_e (arPs bs ps) bs.length (arPs_len bs ps hpb) (by omega) D (fun j => fitPt (D.toNat - 1) (ps.getD j Pt.zero) && fitEx (D.toNat - 1) (bs.getD j Ex.zero)) (fun j hj => ?_)
    have hj2 : j < ps.length := by omega
    have hx := arPs_get bs ps j hj hj2
    have hi := ihb j hj (smallExs_get bs hsb j hj) (wfExs_at bs hwb j hj) (D - 1) (by omega) (by omega)
    have hi1 := fit_pt' ps[j] (smallPts_get ps hsp j hj2) (D - 1) (by omega) (by omega)
    rw [show (D - 1).toNat = D.toNat - 1 by omega] at hi hi1
    rw [getD_at bs Ex.zero j hj, getD_at ps Pt.zero j hj2]
    obtain ⟨k', li', co', m', b', n', ks', ps', bs', hp⟩ := ex_mk bs[j]
    obtain ⟨k2', li2', co2', n2', m2', ps2', hp2⟩ := pt_mk ps[j]
    rw [hp, hp2] at hx ⊢
    rw [hp] at hi
    rw [hp2] at hi1
    refine ⟨_, _, _, _, _, _, _, _, _, _, _, _, _, _, hx, a104e _ _ _ _ _ _ _ _ _ _ _ _ _ _ _ _ ?_⟩
    unfold p104e
    rw [wrap_id (n := D - 1) (by omega) (by omega)]
    refine ⟨_, call_p (enters_of Tryz.func47 (by kernel_rfl) rfl) hi1 rfl ?_⟩
    refine br_i (fun hx => ?_) (fun hx => ⟨by rw [hx]; rfl, rfl⟩)
    exact ⟨_, call_p (enters_of Tryz.func45 (by kernel_rfl) rfl) hi rfl ⟨by rw [hx]; rfl, rfl⟩⟩
  have eB := enters_of Tryz.func103 (by kernel_rfl) rfl
  obtain ⟨V, hV0⟩ : ∃ V, shapeEx k m b.length n ks.length bs.length = V := ⟨_, rfl⟩
  rw [hV0]
  by_cases hk0 : k = 0
  · subst hk0
    have hV : V = (noneB n && (inB (-4611686018427387903) 4611686018427387903 m && (inB 0 0 (b.length : Int) && (inB 0 0 (ks.length : Int) && inB 0 0 (bs.length : Int))))) := by rw [← hV0]; simp [shapeEx, in_0, in_1, in_2, in_3, in_z, numB]
    refine Or.inr (Or.inl ?_)
    refine ⟨_, _, _, _, _, _, _, _, call_p (enters_of Tryz.func100 (by kernel_rfl) rfl) (ex_shape0 m) rfl ?_⟩
    refine br_i (fun _ => ?_) (fun hf => absurd hd (by simpa using hf))
    refine ⟨_, call_p (enters_of Tryz.func164 (by kernel_rfl) rfl) (empty_p n) rfl ?_⟩
    refine br_i (fun hx => ?_) (fun hx => ⟨by rw [hV, hx]; simp, rfl⟩)
    rw [hx, Bool.true_and] at hV
    clear hx
    refine ⟨_, call_p (enters_of Tryz.func79 (by kernel_rfl) rfl) (has_p (-4611686018427387903) 4611686018427387903 m) rfl ?_⟩
    refine br_i (fun hx => ?_) (fun hx => ⟨by rw [hV, hx]; simp, rfl⟩)
    rw [hx, Bool.true_and] at hV
    clear hx
    refine ⟨_, call_p (enters_of Tryz.func34 (by kernel_rfl) rfl) (many_p 0 0 b.length) rfl ?_⟩
    refine br_i (fun hx => ?_) (fun hx => ⟨by rw [hV, hx]; simp, rfl⟩)
    rw [hx, Bool.true_and] at hV
    clear hx
    refine ⟨_, call_p (enters_of Tryz.func34 (by kernel_rfl) rfl) (many_p 0 0 ks.length) rfl ?_⟩
    refine br_i (fun hx => ?_) (fun hx => ⟨by rw [hV, hx]; simp, rfl⟩)
    rw [hx, Bool.true_and] at hV
    clear hx
    refine ⟨_, call_p (enters_of Tryz.func34 (by kernel_rfl) rfl) (many_p 0 0 bs.length) rfl ?_⟩
    refine br_i (fun hx => ?_) (fun hx => ⟨by rw [hV, hx]; simp, rfl⟩)
    rw [hx] at hV
    clear hx
    rw [hV, Bool.true_and]
    refine ⟨_, call_p eA hA rfl ?_⟩
    refine br_i (fun hx => ?_) (fun hx => ⟨by rw [hx]; rfl, rfl⟩)
    exact ⟨_, call_p eB hB rfl ⟨by rw [hx, Bool.true_and], rfl⟩⟩
  by_cases hk1 : k = 1
  · subst hk1
    have hV : V = (noneB n && (inB 0 0 m && (inB 0 64 (b.length : Int) && (inB 0 0 (ks.length : Int) && inB 0 0 (bs.length : Int))))) := by rw [← hV0]; simp [shapeEx, in_0, in_1, in_2, in_3, in_z, numB]
    refine Or.inr (Or.inl ?_)
    refine ⟨_, _, _, _, _, _, _, _, call_p (enters_of Tryz.func100 (by kernel_rfl) rfl) (ex_shape1 m) rfl ?_⟩
    refine br_i (fun _ => ?_) (fun hf => absurd hd (by simpa using hf))
    refine ⟨_, call_p (enters_of Tryz.func164 (by kernel_rfl) rfl) (empty_p n) rfl ?_⟩
    refine br_i (fun hx => ?_) (fun hx => ⟨by rw [hV, hx]; simp, rfl⟩)
    rw [hx, Bool.true_and] at hV
    clear hx
    refine ⟨_, call_p (enters_of Tryz.func79 (by kernel_rfl) rfl) (has_p 0 0 m) rfl ?_⟩
    refine br_i (fun hx => ?_) (fun hx => ⟨by rw [hV, hx]; simp, rfl⟩)
    rw [hx, Bool.true_and] at hV
    clear hx
    refine ⟨_, call_p (enters_of Tryz.func34 (by kernel_rfl) rfl) (many_p 0 64 b.length) rfl ?_⟩
    refine br_i (fun hx => ?_) (fun hx => ⟨by rw [hV, hx]; simp, rfl⟩)
    rw [hx, Bool.true_and] at hV
    clear hx
    refine ⟨_, call_p (enters_of Tryz.func34 (by kernel_rfl) rfl) (many_p 0 0 ks.length) rfl ?_⟩
    refine br_i (fun hx => ?_) (fun hx => ⟨by rw [hV, hx]; simp, rfl⟩)
    rw [hx, Bool.true_and] at hV
    clear hx
    refine ⟨_, call_p (enters_of Tryz.func34 (by kernel_rfl) rfl) (many_p 0 0 bs.length) rfl ?_⟩
    refine br_i (fun hx => ?_) (fun hx => ⟨by rw [hV, hx]; simp, rfl⟩)
    rw [hx] at hV
    clear hx
    rw [hV, Bool.true_and]
    refine ⟨_, call_p eA hA rfl ?_⟩
    refine br_i (fun hx => ?_) (fun hx => ⟨by rw [hx]; rfl, rfl⟩)
    exact ⟨_, call_p eB hB rfl ⟨by rw [hx, Bool.true_and], rfl⟩⟩
  by_cases hk2 : k = 2
  · subst hk2
    have hV : V = (varB n && (inB 0 0 m && (inB 0 0 (b.length : Int) && (inB 0 0 (ks.length : Int) && inB 0 0 (bs.length : Int))))) := by rw [← hV0]; simp [shapeEx, in_0, in_1, in_2, in_3, in_z, numB]
    refine Or.inr (Or.inr (Or.inl ?_))
    refine ⟨_, _, _, _, _, _, _, _, call_p (enters_of Tryz.func100 (by kernel_rfl) rfl) (ex_shape2 m) rfl ?_⟩
    refine br_i (fun _ => ?_) (fun hf => absurd hd (by simpa using hf))
    refine ⟨_, call_p (enters_of Tryz.func165 (by kernel_rfl) rfl) (var_p n hn) rfl ?_⟩
    refine br_i (fun hx => ?_) (fun hx => ⟨by rw [hV, hx]; simp, rfl⟩)
    rw [hx, Bool.true_and] at hV
    clear hx
    refine ⟨_, call_p (enters_of Tryz.func79 (by kernel_rfl) rfl) (has_p 0 0 m) rfl ?_⟩
    refine br_i (fun hx => ?_) (fun hx => ⟨by rw [hV, hx]; simp, rfl⟩)
    rw [hx, Bool.true_and] at hV
    clear hx
    refine ⟨_, call_p (enters_of Tryz.func34 (by kernel_rfl) rfl) (many_p 0 0 b.length) rfl ?_⟩
    refine br_i (fun hx => ?_) (fun hx => ⟨by rw [hV, hx]; simp, rfl⟩)
    rw [hx, Bool.true_and] at hV
    clear hx
    refine ⟨_, call_p (enters_of Tryz.func34 (by kernel_rfl) rfl) (many_p 0 0 ks.length) rfl ?_⟩
    refine br_i (fun hx => ?_) (fun hx => ⟨by rw [hV, hx]; simp, rfl⟩)
    rw [hx, Bool.true_and] at hV
    clear hx
    refine ⟨_, call_p (enters_of Tryz.func34 (by kernel_rfl) rfl) (many_p 0 0 bs.length) rfl ?_⟩
    refine br_i (fun hx => ?_) (fun hx => ⟨by rw [hV, hx]; simp, rfl⟩)
    rw [hx] at hV
    clear hx
    rw [hV, Bool.true_and]
    refine ⟨_, call_p eA hA rfl ?_⟩
    refine br_i (fun hx => ?_) (fun hx => ⟨by rw [hx]; rfl, rfl⟩)
    exact ⟨_, call_p eB hB rfl ⟨by rw [hx, Bool.true_and], rfl⟩⟩
  by_cases hk3 : k = 3
  · subst hk3
    have hV : V = (namedB n true && (inB 0 0 m && (inB 0 0 (b.length : Int) && (inB 0 6 (ks.length : Int) && inB 0 0 (bs.length : Int))))) := by rw [← hV0]; simp [shapeEx, in_0, in_1, in_2, in_3, in_z, numB]
    refine Or.inr (Or.inr (Or.inr (Or.inl ?_)))
    refine ⟨_, _, _, _, _, _, _, _, call_p (enters_of Tryz.func100 (by kernel_rfl) rfl) (ex_shape3 m) rfl ?_⟩
    refine br_i (fun _ => ?_) (fun hf => absurd hd (by simpa using hf))
    refine ⟨_, call_p (enters_of Tryz.func156 (by kernel_rfl) rfl) (great_p n hn) rfl ?_⟩
    refine br_i (fun hx => ?_) (fun hx => ⟨by rw [hV, hx]; simp, rfl⟩)
    rw [hx, Bool.true_and] at hV
    clear hx
    refine ⟨_, call_p (enters_of Tryz.func79 (by kernel_rfl) rfl) (has_p 0 0 m) rfl ?_⟩
    refine br_i (fun hx => ?_) (fun hx => ⟨by rw [hV, hx]; simp, rfl⟩)
    rw [hx, Bool.true_and] at hV
    clear hx
    refine ⟨_, call_p (enters_of Tryz.func34 (by kernel_rfl) rfl) (many_p 0 0 b.length) rfl ?_⟩
    refine br_i (fun hx => ?_) (fun hx => ⟨by rw [hV, hx]; simp, rfl⟩)
    rw [hx, Bool.true_and] at hV
    clear hx
    refine ⟨_, call_p (enters_of Tryz.func34 (by kernel_rfl) rfl) (many_p 0 6 ks.length) rfl ?_⟩
    refine br_i (fun hx => ?_) (fun hx => ⟨by rw [hV, hx]; simp, rfl⟩)
    rw [hx, Bool.true_and] at hV
    clear hx
    refine ⟨_, call_p (enters_of Tryz.func34 (by kernel_rfl) rfl) (many_p 0 0 bs.length) rfl ?_⟩
    refine br_i (fun hx => ?_) (fun hx => ⟨by rw [hV, hx]; simp, rfl⟩)
    rw [hx] at hV
    clear hx
    rw [hV, Bool.true_and]
    refine ⟨_, call_p eA hA rfl ?_⟩
    refine br_i (fun hx => ?_) (fun hx => ⟨by rw [hx]; rfl, rfl⟩)
    exact ⟨_, call_p eB hB rfl ⟨by rw [hx, Bool.true_and], rfl⟩⟩
  by_cases hk4 : k = 4
  · subst hk4
    have hV : V = (noneB n && (inB 0 0 m && (inB 0 0 (b.length : Int) && (inB 2 6 (ks.length : Int) && inB 0 0 (bs.length : Int))))) := by rw [← hV0]; simp [shapeEx, in_0, in_1, in_2, in_3, in_z, numB]
    refine Or.inr (Or.inl ?_)
    refine ⟨_, _, _, _, _, _, _, _, call_p (enters_of Tryz.func100 (by kernel_rfl) rfl) (ex_shape4 m) rfl ?_⟩
    refine br_i (fun _ => ?_) (fun hf => absurd hd (by simpa using hf))
    refine ⟨_, call_p (enters_of Tryz.func164 (by kernel_rfl) rfl) (empty_p n) rfl ?_⟩
    refine br_i (fun hx => ?_) (fun hx => ⟨by rw [hV, hx]; simp, rfl⟩)
    rw [hx, Bool.true_and] at hV
    clear hx
    refine ⟨_, call_p (enters_of Tryz.func79 (by kernel_rfl) rfl) (has_p 0 0 m) rfl ?_⟩
    refine br_i (fun hx => ?_) (fun hx => ⟨by rw [hV, hx]; simp, rfl⟩)
    rw [hx, Bool.true_and] at hV
    clear hx
    refine ⟨_, call_p (enters_of Tryz.func34 (by kernel_rfl) rfl) (many_p 0 0 b.length) rfl ?_⟩
    refine br_i (fun hx => ?_) (fun hx => ⟨by rw [hV, hx]; simp, rfl⟩)
    rw [hx, Bool.true_and] at hV
    clear hx
    refine ⟨_, call_p (enters_of Tryz.func34 (by kernel_rfl) rfl) (many_p 2 6 ks.length) rfl ?_⟩
    refine br_i (fun hx => ?_) (fun hx => ⟨by rw [hV, hx]; simp, rfl⟩)
    rw [hx, Bool.true_and] at hV
    clear hx
    refine ⟨_, call_p (enters_of Tryz.func34 (by kernel_rfl) rfl) (many_p 0 0 bs.length) rfl ?_⟩
    refine br_i (fun hx => ?_) (fun hx => ⟨by rw [hV, hx]; simp, rfl⟩)
    rw [hx] at hV
    clear hx
    rw [hV, Bool.true_and]
    refine ⟨_, call_p eA hA rfl ?_⟩
    refine br_i (fun hx => ?_) (fun hx => ⟨by rw [hx]; rfl, rfl⟩)
    exact ⟨_, call_p eB hB rfl ⟨by rw [hx, Bool.true_and], rfl⟩⟩
  by_cases hk5 : k = 5
  · subst hk5
    have hV : V = (funB n && (inB 0 0 m && (inB 0 0 (b.length : Int) && (inB 1 6 (ks.length : Int) && inB 0 0 (bs.length : Int))))) := by rw [← hV0]; simp [shapeEx, in_0, in_1, in_2, in_3, in_z, numB]
    refine Or.inr (Or.inr (Or.inr (Or.inr (Or.inl ?_))))
    refine ⟨_, _, _, _, _, _, _, _, call_p (enters_of Tryz.func100 (by kernel_rfl) rfl) (ex_shape5 m) rfl ?_⟩
    refine br_i (fun _ => ?_) (fun hf => absurd hd (by simpa using hf))
    refine ⟨_, call_p (enters_of Tryz.func87 (by kernel_rfl) rfl) (offun_p n hn) rfl ?_⟩
    refine br_i (fun hx => ?_) (fun hx => ⟨by rw [hV, hx]; simp, rfl⟩)
    rw [hx, Bool.true_and] at hV
    clear hx
    refine ⟨_, call_p (enters_of Tryz.func79 (by kernel_rfl) rfl) (has_p 0 0 m) rfl ?_⟩
    refine br_i (fun hx => ?_) (fun hx => ⟨by rw [hV, hx]; simp, rfl⟩)
    rw [hx, Bool.true_and] at hV
    clear hx
    refine ⟨_, call_p (enters_of Tryz.func34 (by kernel_rfl) rfl) (many_p 0 0 b.length) rfl ?_⟩
    refine br_i (fun hx => ?_) (fun hx => ⟨by rw [hV, hx]; simp, rfl⟩)
    rw [hx, Bool.true_and] at hV
    clear hx
    refine ⟨_, call_p (enters_of Tryz.func34 (by kernel_rfl) rfl) (many_p 1 6 ks.length) rfl ?_⟩
    refine br_i (fun hx => ?_) (fun hx => ⟨by rw [hV, hx]; simp, rfl⟩)
    rw [hx, Bool.true_and] at hV
    clear hx
    refine ⟨_, call_p (enters_of Tryz.func34 (by kernel_rfl) rfl) (many_p 0 0 bs.length) rfl ?_⟩
    refine br_i (fun hx => ?_) (fun hx => ⟨by rw [hV, hx]; simp, rfl⟩)
    rw [hx] at hV
    clear hx
    rw [hV, Bool.true_and]
    refine ⟨_, call_p eA hA rfl ?_⟩
    refine br_i (fun hx => ?_) (fun hx => ⟨by rw [hx]; rfl, rfl⟩)
    exact ⟨_, call_p eB hB rfl ⟨by rw [hx, Bool.true_and], rfl⟩⟩
  by_cases hk6 : k = 6
  · subst hk6
    have hV : V = (namedB n false && (inB 0 0 m && (inB 0 0 (b.length : Int) && (inB 2 2 (ks.length : Int) && inB 0 0 (bs.length : Int))))) := by rw [← hV0]; simp [shapeEx, in_0, in_1, in_2, in_3, in_z, numB]
    refine Or.inr (Or.inr (Or.inr (Or.inr (Or.inr (?_)))))
    refine ⟨_, _, _, _, _, _, _, _, call_p (enters_of Tryz.func100 (by kernel_rfl) rfl) (ex_shape6 m) rfl ?_⟩
    refine br_i (fun _ => ?_) (fun hf => absurd hd (by simpa using hf))
    refine ⟨_, call_p (enters_of Tryz.func92 (by kernel_rfl) rfl) (small_p n hn) rfl ?_⟩
    refine br_i (fun hx => ?_) (fun hx => ⟨by rw [hV, hx]; simp, rfl⟩)
    rw [hx, Bool.true_and] at hV
    clear hx
    refine ⟨_, call_p (enters_of Tryz.func79 (by kernel_rfl) rfl) (has_p 0 0 m) rfl ?_⟩
    refine br_i (fun hx => ?_) (fun hx => ⟨by rw [hV, hx]; simp, rfl⟩)
    rw [hx, Bool.true_and] at hV
    clear hx
    refine ⟨_, call_p (enters_of Tryz.func34 (by kernel_rfl) rfl) (many_p 0 0 b.length) rfl ?_⟩
    refine br_i (fun hx => ?_) (fun hx => ⟨by rw [hV, hx]; simp, rfl⟩)
    rw [hx, Bool.true_and] at hV
    clear hx
    refine ⟨_, call_p (enters_of Tryz.func34 (by kernel_rfl) rfl) (many_p 2 2 ks.length) rfl ?_⟩
    refine br_i (fun hx => ?_) (fun hx => ⟨by rw [hV, hx]; simp, rfl⟩)
    rw [hx, Bool.true_and] at hV
    clear hx
    refine ⟨_, call_p (enters_of Tryz.func34 (by kernel_rfl) rfl) (many_p 0 0 bs.length) rfl ?_⟩
    refine br_i (fun hx => ?_) (fun hx => ⟨by rw [hV, hx]; simp, rfl⟩)
    rw [hx] at hV
    clear hx
    rw [hV, Bool.true_and]
    refine ⟨_, call_p eA hA rfl ?_⟩
    refine br_i (fun hx => ?_) (fun hx => ⟨by rw [hx]; rfl, rfl⟩)
    exact ⟨_, call_p eB hB rfl ⟨by rw [hx, Bool.true_and], rfl⟩⟩
  by_cases hk7 : k = 7
  · subst hk7
    have hV : V = (noneB n && (inB 0 0 m && (inB 0 0 (b.length : Int) && (inB 3 3 (ks.length : Int) && inB 0 0 (bs.length : Int))))) := by rw [← hV0]; simp [shapeEx, in_0, in_1, in_2, in_3, in_z, numB]
    refine Or.inr (Or.inl ?_)
    refine ⟨_, _, _, _, _, _, _, _, call_p (enters_of Tryz.func100 (by kernel_rfl) rfl) (ex_shape7 m) rfl ?_⟩
    refine br_i (fun _ => ?_) (fun hf => absurd hd (by simpa using hf))
    refine ⟨_, call_p (enters_of Tryz.func164 (by kernel_rfl) rfl) (empty_p n) rfl ?_⟩
    refine br_i (fun hx => ?_) (fun hx => ⟨by rw [hV, hx]; simp, rfl⟩)
    rw [hx, Bool.true_and] at hV
    clear hx
    refine ⟨_, call_p (enters_of Tryz.func79 (by kernel_rfl) rfl) (has_p 0 0 m) rfl ?_⟩
    refine br_i (fun hx => ?_) (fun hx => ⟨by rw [hV, hx]; simp, rfl⟩)
    rw [hx, Bool.true_and] at hV
    clear hx
    refine ⟨_, call_p (enters_of Tryz.func34 (by kernel_rfl) rfl) (many_p 0 0 b.length) rfl ?_⟩
    refine br_i (fun hx => ?_) (fun hx => ⟨by rw [hV, hx]; simp, rfl⟩)
    rw [hx, Bool.true_and] at hV
    clear hx
    refine ⟨_, call_p (enters_of Tryz.func34 (by kernel_rfl) rfl) (many_p 3 3 ks.length) rfl ?_⟩
    refine br_i (fun hx => ?_) (fun hx => ⟨by rw [hV, hx]; simp, rfl⟩)
    rw [hx, Bool.true_and] at hV
    clear hx
    refine ⟨_, call_p (enters_of Tryz.func34 (by kernel_rfl) rfl) (many_p 0 0 bs.length) rfl ?_⟩
    refine br_i (fun hx => ?_) (fun hx => ⟨by rw [hV, hx]; simp, rfl⟩)
    rw [hx] at hV
    clear hx
    rw [hV, Bool.true_and]
    refine ⟨_, call_p eA hA rfl ?_⟩
    refine br_i (fun hx => ?_) (fun hx => ⟨by rw [hx]; rfl, rfl⟩)
    exact ⟨_, call_p eB hB rfl ⟨by rw [hx, Bool.true_and], rfl⟩⟩
  by_cases hk8 : k = 8
  · subst hk8
    have hV : V = (noneB n && (inB 0 0 m && (inB 0 0 (b.length : Int) && (inB 1 1 (ks.length : Int) && inB 1 32 (bs.length : Int))))) := by rw [← hV0]; simp [shapeEx, in_0, in_1, in_2, in_3, in_z, numB]
    refine Or.inr (Or.inl ?_)
    refine ⟨_, _, _, _, _, _, _, _, call_p (enters_of Tryz.func100 (by kernel_rfl) rfl) (ex_shape8 m) rfl ?_⟩
    refine br_i (fun _ => ?_) (fun hf => absurd hd (by simpa using hf))
    refine ⟨_, call_p (enters_of Tryz.func164 (by kernel_rfl) rfl) (empty_p n) rfl ?_⟩
    refine br_i (fun hx => ?_) (fun hx => ⟨by rw [hV, hx]; simp, rfl⟩)
    rw [hx, Bool.true_and] at hV
    clear hx
    refine ⟨_, call_p (enters_of Tryz.func79 (by kernel_rfl) rfl) (has_p 0 0 m) rfl ?_⟩
    refine br_i (fun hx => ?_) (fun hx => ⟨by rw [hV, hx]; simp, rfl⟩)
    rw [hx, Bool.true_and] at hV
    clear hx
    refine ⟨_, call_p (enters_of Tryz.func34 (by kernel_rfl) rfl) (many_p 0 0 b.length) rfl ?_⟩
    refine br_i (fun hx => ?_) (fun hx => ⟨by rw [hV, hx]; simp, rfl⟩)
    rw [hx, Bool.true_and] at hV
    clear hx
    refine ⟨_, call_p (enters_of Tryz.func34 (by kernel_rfl) rfl) (many_p 1 1 ks.length) rfl ?_⟩
    refine br_i (fun hx => ?_) (fun hx => ⟨by rw [hV, hx]; simp, rfl⟩)
    rw [hx, Bool.true_and] at hV
    clear hx
    refine ⟨_, call_p (enters_of Tryz.func34 (by kernel_rfl) rfl) (many_p 1 32 bs.length) rfl ?_⟩
    refine br_i (fun hx => ?_) (fun hx => ⟨by rw [hV, hx]; simp, rfl⟩)
    rw [hx] at hV
    clear hx
    rw [hV, Bool.true_and]
    refine ⟨_, call_p eA hA rfl ?_⟩
    refine br_i (fun hx => ?_) (fun hx => ⟨by rw [hx]; rfl, rfl⟩)
    exact ⟨_, call_p eB hB rfl ⟨by rw [hx, Bool.true_and], rfl⟩⟩
  by_cases hk9 : k = 9
  · subst hk9
    have hV : V = (noneB n && (inB 0 11 m && (inB 0 0 (b.length : Int) && (inB (argsOf m) (argsOf m) (ks.length : Int) && inB 0 0 (bs.length : Int))))) := by rw [← hV0]; simp [shapeEx, in_0, in_1, in_2, in_3, in_z, in_i, numB]
    refine Or.inr (Or.inl ?_)
    refine ⟨_, _, _, _, _, _, _, _, call_p (enters_of Tryz.func100 (by kernel_rfl) rfl) (ex_shape9 m) rfl ?_⟩
    refine br_i (fun _ => ?_) (fun hf => absurd hd (by simpa using hf))
    refine ⟨_, call_p (enters_of Tryz.func164 (by kernel_rfl) rfl) (empty_p n) rfl ?_⟩
    refine br_i (fun hx => ?_) (fun hx => ⟨by rw [hV, hx]; simp, rfl⟩)
    rw [hx, Bool.true_and] at hV
    clear hx
    refine ⟨_, call_p (enters_of Tryz.func79 (by kernel_rfl) rfl) (has_p 0 11 m) rfl ?_⟩
    refine br_i (fun hx => ?_) (fun hx => ⟨by rw [hV, hx]; simp, rfl⟩)
    rw [hx, Bool.true_and] at hV
    clear hx
    refine ⟨_, call_p (enters_of Tryz.func34 (by kernel_rfl) rfl) (many_p 0 0 b.length) rfl ?_⟩
    refine br_i (fun hx => ?_) (fun hx => ⟨by rw [hV, hx]; simp, rfl⟩)
    rw [hx, Bool.true_and] at hV
    clear hx
    refine ⟨_, call_p (enters_of Tryz.func34 (by kernel_rfl) rfl) (many_p (argsOf m) (argsOf m) ks.length) rfl ?_⟩
    refine br_i (fun hx => ?_) (fun hx => ⟨by rw [hV, hx]; simp, rfl⟩)
    rw [hx, Bool.true_and] at hV
    clear hx
    refine ⟨_, call_p (enters_of Tryz.func34 (by kernel_rfl) rfl) (many_p 0 0 bs.length) rfl ?_⟩
    refine br_i (fun hx => ?_) (fun hx => ⟨by rw [hV, hx]; simp, rfl⟩)
    rw [hx] at hV
    clear hx
    rw [hV, Bool.true_and]
    refine ⟨_, call_p eA hA rfl ?_⟩
    refine br_i (fun hx => ?_) (fun hx => ⟨by rw [hx]; rfl, rfl⟩)
    exact ⟨_, call_p eB hB rfl ⟨by rw [hx, Bool.true_and], rfl⟩⟩
  by_cases hk10 : k = 10
  · subst hk10
    have hV : V = (namedB n false && (inB 0 1000 m && (inB 0 0 (b.length : Int) && (inB 2 2 (ks.length : Int) && inB 0 0 (bs.length : Int))))) := by rw [← hV0]; simp [shapeEx, in_0, in_1, in_2, in_3, in_z, numB]
    refine Or.inr (Or.inr (Or.inr (Or.inr (Or.inr (?_)))))
    refine ⟨_, _, _, _, _, _, _, _, call_p (enters_of Tryz.func100 (by kernel_rfl) rfl) (ex_shape10 m) rfl ?_⟩
    refine br_i (fun _ => ?_) (fun hf => absurd hd (by simpa using hf))
    refine ⟨_, call_p (enters_of Tryz.func92 (by kernel_rfl) rfl) (small_p n hn) rfl ?_⟩
    refine br_i (fun hx => ?_) (fun hx => ⟨by rw [hV, hx]; simp, rfl⟩)
    rw [hx, Bool.true_and] at hV
    clear hx
    refine ⟨_, call_p (enters_of Tryz.func79 (by kernel_rfl) rfl) (has_p 0 1000 m) rfl ?_⟩
    refine br_i (fun hx => ?_) (fun hx => ⟨by rw [hV, hx]; simp, rfl⟩)
    rw [hx, Bool.true_and] at hV
    clear hx
    refine ⟨_, call_p (enters_of Tryz.func34 (by kernel_rfl) rfl) (many_p 0 0 b.length) rfl ?_⟩
    refine br_i (fun hx => ?_) (fun hx => ⟨by rw [hV, hx]; simp, rfl⟩)
    rw [hx, Bool.true_and] at hV
    clear hx
    refine ⟨_, call_p (enters_of Tryz.func34 (by kernel_rfl) rfl) (many_p 2 2 ks.length) rfl ?_⟩
    refine br_i (fun hx => ?_) (fun hx => ⟨by rw [hV, hx]; simp, rfl⟩)
    rw [hx, Bool.true_and] at hV
    clear hx
    refine ⟨_, call_p (enters_of Tryz.func34 (by kernel_rfl) rfl) (many_p 0 0 bs.length) rfl ?_⟩
    refine br_i (fun hx => ?_) (fun hx => ⟨by rw [hV, hx]; simp, rfl⟩)
    rw [hx] at hV
    clear hx
    rw [hV, Bool.true_and]
    refine ⟨_, call_p eA hA rfl ?_⟩
    refine br_i (fun hx => ?_) (fun hx => ⟨by rw [hx]; rfl, rfl⟩)
    exact ⟨_, call_p eB hB rfl ⟨by rw [hx, Bool.true_and], rfl⟩⟩
  have hV : V = false := by rw [← hV0]; simp [shapeEx, hk0, hk1, hk2, hk3, hk4, hk5, hk6, hk7, hk8, hk9, hk10]
  refine Or.inl ?_
  refine ⟨_, _, _, _, _, _, _, _, call_p (enters_of Tryz.func100 (by kernel_rfl) rfl) (ex_shape_no k m hk0 hk1 hk2 hk3 hk4 hk5 hk6 hk7 hk8 hk9 hk10) rfl ?_⟩
  refine br_i (fun _ => ?_) (fun hf => absurd hd (by simpa using hf))
  refine ⟨_, call_p (enters_of Tryz.func195 (by kernel_rfl) rfl) (nothing_p n) rfl ?_⟩
  exact br_i (fun hx => by cases hx) (fun hx => ⟨by rw [hV]; rfl, rfl⟩)
theorem fit_exF' (t : Ex) (hs : smallEx t) (hw : wfEx t) : PCalls Tryz.prog 14 [.agg (exP t)] (fun r => r = .con (.bool (fitEx 64 t))) := by
  have h := fit_ex' t hs hw 64 (by omega) (by omega)
  obtain ⟨k', li', co', m', b', n', ks', ps', bs', hp⟩ := ex_mk t
  subst hp
  refine a14 _ _ _ _ _ _ _ _ _ ?_
  unfold p14
  exact ⟨_, call_p (enters_of Tryz.func45 (by kernel_rfl) rfl) h rfl ⟨rfl, rfl⟩⟩
end Go.Proofs.YtcmnjodjebcapaaGreat.Deep

namespace Go.Proofs.YtcmnjodjebcapaaGreat.Deep
open Go.RowKit
set_option linter.unusedVariables false
set_option linter.unusedSimpArgs false
theorem nat_le (n c : Nat) : decide ((n : Int) ≤ (c : Int)) = decide (n ≤ c) := by rw [Bool.eq_iff_iff]; simp
theorem con_p (c : Co) (hs : smallCo c) : PCalls Tryz.prog 84 [.agg (coP c)] (fun r => r = .con (.bool (conB c))) := by
  obtain ⟨nm, fs⟩ := c
  obtain ⟨h1, h2, h3⟩ := hs
  dsimp only at h1 h2 h3
  have hA : PCalls Tryz.prog 111 [.sl (tyPs fs), .fn 18 []] (fun r => r = .con (.bool (fs.all (fitTy 64)))) := by
    rw [← range_all fs Ty.zero (fitTy 64)]
    refine all_b (tyPs fs) fs.length (tyPs_len fs) (by omega) (fun j => fitTy 64 (fs.getD j Ty.zero)) (fun j hj => ?_)
    have hx := tyPs_get fs j hj
    have hi := fit_tyF' fs[j] (smallTys_get fs h3 j hj)
    rw [getD_at fs Ty.zero j hj]
    obtain ⟨k', n', ps', hp⟩ := ty_mk fs[j]
    rw [hp] at hx hi ⊢
    exact ⟨_, _, _, hx, hi⟩
  unfold conB
  dsimp only
  refine a84 _ _ _ ?_
  unfold p84
  rw [tyPs_len]
  refine ⟨_, call_p (enters_of Tryz.func156 (by kernel_rfl) rfl) (great_p nm h1) rfl ?_⟩
  refine br_i (fun hx => ?_) (fun hx => ⟨by rw [hx]; rfl, rfl⟩)
  rw [hx, Bool.true_and, ← nat_le fs.length 6]
  refine br_i (fun hx => ?_) (fun hx => ⟨by rw [show decide ((fs.length : Int) ≤ ((6 : Nat) : Int)) = false from hx]; rfl, rfl⟩)
  rw [show decide ((fs.length : Int) ≤ ((6 : Nat) : Int)) = true from hx, Bool.true_and]
  exact ⟨_, call_p (enters_of Tryz.func111 (by kernel_rfl) rfl) hA rfl ⟨rfl, rfl⟩⟩
theorem data_p' (d : Da) (hs : smallDa d) : PCalls Tryz.prog 36 [.agg (daP d)] (fun r => r = .con (.bool (dataOk d))) := by
  obtain ⟨li, co, nm, cs⟩ := d
  obtain ⟨h1, h2, h3⟩ := hs
  dsimp only at h1 h2 h3
  have hA : PCalls Tryz.prog 83 [.sl (cs.map coP), .fn 84 []] (fun r => r = .con (.bool (cs.all conB))) := by
    rw [← range_all cs ⟨⟨#[]⟩, []⟩ conB]
    refine all_f (cs.map coP) cs.length (by simp) (by omega) (fun j => conB (cs.getD j ⟨⟨#[]⟩, []⟩)) (fun j hj => ?_)
    rw [getD_at cs _ j hj]
    exact ⟨_, _, map_get coP cs j hj, con_p cs[j] (h3 _ (List.getElem_mem hj))⟩
  unfold dataOk
  dsimp only
  refine a36 _ _ _ _ _ ?_
  unfold p36
  rw [List.length_map]
  refine ⟨_, call_p (enters_of Tryz.func82 (by kernel_rfl) rfl) (ofdata_p nm h1) rfl ?_⟩
  refine br_i (fun hx => ?_) (fun hx => ⟨by rw [hx]; rfl, rfl⟩)
  rw [hx, Bool.true_and]
  refine ⟨_, _, call_p (enters_of Tryz.func33 (by kernel_rfl) rfl) (from_p 1 16) rfl ?_⟩
  refine ⟨_, call_p (enters_of Tryz.func34 (by kernel_rfl) rfl) (many_p 1 16 cs.length) rfl ?_⟩
  refine br_i (fun hx => ?_) (fun hx => ⟨by rw [hx]; rfl, rfl⟩)
  rw [hx, Bool.true_and]
  exact ⟨_, call_p (enters_of Tryz.func83 (by kernel_rfl) rfl) hA rfl ⟨rfl, rfl⟩⟩
theorem param_p' (p : Pa) (hs : smallPa p) : PCalls Tryz.prog 89 [.agg (paP p)] (fun r => r = .con (.bool (paramB p))) := by
  obtain ⟨nm, ty⟩ := p
  have h := fit_tyF' ty hs.2
  unfold paramB
  dsimp only
  obtain ⟨k, n, ps, hp⟩ := ty_mk ty
  subst hp
  refine a89 _ _ _ _ _ ?_
  unfold p89
  refine ⟨_, call_p (enters_of Tryz.func92 (by kernel_rfl) rfl) (small_p nm hs.1) rfl ?_⟩
  refine br_i (fun hx => ?_) (fun hx => ⟨by rw [hx]; rfl, rfl⟩)
  exact ⟨_, call_p (enters_of Tryz.func18 (by kernel_rfl) rfl) h rfl ⟨by rw [hx]; rfl, rfl⟩⟩
theorem fun_p' (f : Fu) (hs : smallFu f) (hw : wfEx f.body) : PCalls Tryz.prog 38 [.agg (fuP f)] (fun r => r = .con (.bool (funOk f))) := by
  obtain ⟨li, co, nm, pas, res, body⟩ := f
  obtain ⟨h1, h2, h3, h4, h5⟩ := hs
  dsimp only at h1 h2 h3 h4 h5 hw
  have hr := fit_tyF' res h4
  have hb := fit_exF' body h5 hw
  have hA : PCalls Tryz.prog 88 [.sl (pas.map paP), .fn 89 []] (fun r => r = .con (.bool (pas.all paramB))) := by
    rw [← range_all pas ⟨⟨#[]⟩, Ty.zero⟩ paramB]
    refine all_h (pas.map paP) pas.length (by simp) (by omega) (fun j => paramB (pas.getD j ⟨⟨#[]⟩, Ty.zero⟩)) (fun j hj => ?_)
    have hx := map_get paP pas j hj
    have hi := param_p' pas[j] (h3 _ (List.getElem_mem hj))
    rw [getD_at pas _ j hj]
    obtain ⟨cc, hcc⟩ : ∃ cc, pas[j] = cc := ⟨_, rfl⟩
    rw [hcc] at hx hi ⊢
    obtain ⟨cn, ct⟩ := cc
    obtain ⟨k, n, ps, hp⟩ := ty_mk ct
    subst hp
    exact ⟨_, _, _, _, hx, hi⟩
  unfold funOk
  dsimp only
  obtain ⟨A1, e1⟩ : ∃ x, funB nm = x := ⟨_, rfl⟩
  obtain ⟨A2, e2⟩ : ∃ x, inB 1 6 pas.length = x := ⟨_, rfl⟩
  obtain ⟨A3, e3⟩ : ∃ x, fitTy 64 res = x := ⟨_, rfl⟩
  obtain ⟨A4, e4⟩ : ∃ x, fitEx 64 body = x := ⟨_, rfl⟩
  obtain ⟨A5, e5⟩ : ∃ x, pas.all paramB = x := ⟨_, rfl⟩
  have g1 := offun_p nm h1
  have g2 := many_p 1 6 pas.length
  rw [e1] at g1
  rw [e2] at g2
  rw [e3] at hr
  rw [e4] at hb
  rw [e5] at hA
  rw [e1, e2, e3, e4, e5]
  clear e1 e2 e3 e4 e5
  obtain ⟨k, n, ps, hp⟩ := ty_mk res
  obtain ⟨k', li', co', m', b', n', ks', ps', bs', hp2⟩ := ex_mk body
  subst hp hp2
  refine a38 _ _ _ _ _ _ _ _ _ _ _ _ _ _ _ _ ?_
  unfold p38
  rw [List.length_map]
  refine ⟨_, call_p (enters_of Tryz.func87 (by kernel_rfl) rfl) g1 rfl ?_⟩
  refine br_i (fun x1 => ?_) (fun hx => ⟨by simp [*], rfl⟩)
  refine ⟨_, _, call_p (enters_of Tryz.func33 (by kernel_rfl) rfl) (from_p 1 6) rfl ?_⟩
  refine ⟨_, call_p (enters_of Tryz.func34 (by kernel_rfl) rfl) g2 rfl ?_⟩
  refine br_i (fun x2 => ?_) (fun hx => ⟨by simp [*], rfl⟩)
  refine ⟨_, call_p (enters_of Tryz.func88 (by kernel_rfl) rfl) hA rfl ?_⟩
  refine br_i (fun x3 => ?_) (fun hx => ⟨by simp [*], rfl⟩)
  refine ⟨_, call_p (enters_of Tryz.func18 (by kernel_rfl) rfl) hr rfl ?_⟩
  refine br_i (fun x4 => ?_) (fun hx => ⟨by simp [*], rfl⟩)
  exact ⟨_, call_p (enters_of Tryz.func14 (by kernel_rfl) rfl) hb rfl ⟨by simp [*], rfl⟩⟩
theorem hand_p' (h : Ha) (hs : smallHa h) (hw : wfEx h.body) : PCalls Tryz.prog 40 [.agg (haP h)] (fun r => r = .con (.bool (handB h))) := by
  obtain ⟨li, co, nm, pa, cp, body⟩ := h
  obtain ⟨h1, h2, h3⟩ := hs
  dsimp only at h1 h2 h3 hw
  have hr := param_p' pa h2
  have hb := fit_exF' body h3 hw
  unfold handB
  dsimp only
  obtain ⟨A1, e1⟩ : ∃ x, namedB nm false = x := ⟨_, rfl⟩
  obtain ⟨A2, e2⟩ : ∃ x, inB 0 64 cp = x := ⟨_, rfl⟩
  obtain ⟨A3, e3⟩ : ∃ x, paramB pa = x := ⟨_, rfl⟩
  obtain ⟨A4, e4⟩ : ∃ x, fitEx 64 body = x := ⟨_, rfl⟩
  have g1 := small_p nm h1
  have g2 := many_p 0 64 cp
  rw [e1] at g1
  rw [e2] at g2
  rw [e3] at hr
  rw [e4] at hb
  rw [e1, e2, e3, e4]
  clear e1 e2 e3 e4
  obtain ⟨pn, pt⟩ := pa
  obtain ⟨k, n, ps, hp⟩ := ty_mk pt
  obtain ⟨k', li', co', m', b', n', ks', ps', bs', hp2⟩ := ex_mk body
  subst hp hp2
  refine a40 _ _ _ _ _ _ _ _ _ _ _ _ _ _ _ _ _ ?_
  unfold p40
  refine ⟨_, call_p (enters_of Tryz.func92 (by kernel_rfl) rfl) g1 rfl ?_⟩
  refine br_i (fun x1 => ?_) (fun hx => ⟨by simp [*], rfl⟩)
  refine ⟨_, call_p (enters_of Tryz.func89 (by kernel_rfl) rfl) hr rfl ?_⟩
  refine br_i (fun x2 => ?_) (fun hx => ⟨by simp [*], rfl⟩)
  refine ⟨_, _, call_p (enters_of Tryz.func33 (by kernel_rfl) rfl) (from_p 0 64) rfl ?_⟩
  refine ⟨_, call_p (enters_of Tryz.func34 (by kernel_rfl) rfl) g2 rfl ?_⟩
  refine br_i (fun x3 => ?_) (fun hx => ⟨by simp [*], rfl⟩)
  exact ⟨_, call_p (enters_of Tryz.func14 (by kernel_rfl) rfl) hb rfl ⟨by simp [*], rfl⟩⟩
theorem prog_p' (p : Pr) (hs : smallPr p) (hw : wfPr p) : PCalls Tryz.prog 12 [.agg (prP p)] (fun r => r = .con (.bool (progB p))) := by
  obtain ⟨ds, fs, q, tm, st, cp, ini, hds⟩ := p
  obtain ⟨h1, h2, h3, h4, h5, h6, h7, h8⟩ := hs
  obtain ⟨w1, w2, w3⟩ := hw
  dsimp only at h1 h2 h3 h4 h5 h6 h7 h8 w1 w2 w3
  have hr := fit_tyF' st h7
  have hb := fit_exF' ini h8 w3
  have hD : PCalls Tryz.prog 35 [.sl (ds.map daP), .fn 36 []] (fun r => r = .con (.bool (ds.all dataOk))) := by
    rw [← range_all ds ⟨0, 0, ⟨#[]⟩, []⟩ dataOk]
    refine all_g (ds.map daP) ds.length (by simp) (by omega) (fun j => dataOk (ds.getD j ⟨0, 0, ⟨#[]⟩, []⟩)) (fun j hj => ?_)
    rw [getD_at ds _ j hj]
    exact ⟨_, _, _, _, map_get daP ds j hj, data_p' ds[j] (h2 _ (List.getElem_mem hj))⟩
  have hF : PCalls Tryz.prog 37 [.sl (fs.map fuP), .fn 38 []] (fun r => r = .con (.bool (fs.all funOk))) := by
    rw [← range_all fs ⟨0, 0, ⟨#[]⟩, [], Ty.zero, Ex.zero⟩ funOk]
    refine all_i (fs.map fuP) fs.length (by simp) (by omega) (fun j => funOk (fs.getD j ⟨0, 0, ⟨#[]⟩, [], Ty.zero, Ex.zero⟩)) (fun j hj => ?_)
    have hx := map_get fuP fs j hj
    have hi := fun_p' fs[j] (h4 _ (List.getElem_mem hj)) (w1 _ (List.getElem_mem hj))
    rw [getD_at fs _ j hj]
    obtain ⟨cc, hcc⟩ : ∃ cc, fs[j] = cc := ⟨_, rfl⟩
    rw [hcc] at hx hi ⊢
    obtain ⟨fli, fco, fnm, fpa, fre, fbo⟩ := cc
    obtain ⟨k, n, ps, hp⟩ := ty_mk fre
    obtain ⟨k', li', co', m', b', n', ks', ps', bs', hp2⟩ := ex_mk fbo
    subst hp hp2
    exact ⟨_, _, _, _, _, _, _, _, _, _, _, _, _, _, _, hx, hi⟩
  have hH : PCalls Tryz.prog 39 [.sl (hds.map haP), .fn 40 []] (fun r => r = .con (.bool (hds.all handB))) := by
    rw [← range_all hds ⟨0, 0, ⟨#[]⟩, ⟨⟨#[]⟩, Ty.zero⟩, 0, Ex.zero⟩ handB]
    refine all_j (hds.map haP) hds.length (by simp) (by omega) (fun j => handB (hds.getD j ⟨0, 0, ⟨#[]⟩, ⟨⟨#[]⟩, Ty.zero⟩, 0, Ex.zero⟩)) (fun j hj => ?_)
    have hx := map_get haP hds j hj
    have hi := hand_p' hds[j] (h6 _ (List.getElem_mem hj)) (w2 _ (List.getElem_mem hj))
    rw [getD_at hds _ j hj]
    obtain ⟨cc, hcc⟩ : ∃ cc, hds[j] = cc := ⟨_, rfl⟩
    rw [hcc] at hx hi ⊢
    obtain ⟨hli, hco, hnm, hpa, hcp, hbo⟩ := cc
    obtain ⟨pn, pt⟩ := hpa
    obtain ⟨k, n, ps, hp⟩ := ty_mk pt
    obtain ⟨k', li', co', m', b', n', ks', ps', bs', hp2⟩ := ex_mk hbo
    subst hp hp2
    exact ⟨_, _, _, _, _, _, _, _, _, _, _, _, _, _, _, _, hx, hi⟩
  unfold progB
  dsimp only
  rw [← nat_le ds.length 32, ← nat_le fs.length 48, ← nat_le hds.length 16]
  have g1 := many_p 1 32 q
  have g2 := many_p 0 32 tm
  have g3 := many_p 0 256 cp
  obtain ⟨A1, e1⟩ : ∃ x, inB 1 32 q = x := ⟨_, rfl⟩
  obtain ⟨A2, e2⟩ : ∃ x, inB 0 32 tm = x := ⟨_, rfl⟩
  obtain ⟨A3, e3⟩ : ∃ x, inB 0 256 cp = x := ⟨_, rfl⟩
  obtain ⟨A4, e4⟩ : ∃ x, fitTy 64 st = x := ⟨_, rfl⟩
  obtain ⟨A5, e5⟩ : ∃ x, fitEx 64 ini = x := ⟨_, rfl⟩
  obtain ⟨A6, e6⟩ : ∃ x, ds.all dataOk = x := ⟨_, rfl⟩
  obtain ⟨A7, e7⟩ : ∃ x, fs.all funOk = x := ⟨_, rfl⟩
  obtain ⟨A8, e8⟩ : ∃ x, hds.all handB = x := ⟨_, rfl⟩
  rw [e1] at g1
  rw [e2] at g2
  rw [e3] at g3
  rw [e4] at hr
  rw [e5] at hb
  rw [e6] at hD
  rw [e7] at hF
  rw [e8] at hH
  rw [e1, e2, e3, e4, e5, e6, e7, e8]
  clear e1 e2 e3 e4 e5 e6 e7 e8 h2 h4 h6 w1 w2
  obtain ⟨k, n, ps, hp⟩ := ty_mk st
  obtain ⟨k', li', co', m', b', n', ks', ps', bs', hp2⟩ := ex_mk ini
  subst hp hp2
  refine a12 _ _ _ _ _ _ _ _ _ _ _ _ _ _ _ _ _ _ ?_
  unfold p12
  rw [List.length_map, List.length_map, List.length_map]
  refine br_i (fun y1 => ?_) (fun hx => ⟨by rw [show decide ((ds.length : Int) ≤ ((32 : Nat) : Int)) = false from hx]; rfl, rfl⟩)
  rw [show decide ((ds.length : Int) ≤ ((32 : Nat) : Int)) = true from y1, Bool.true_and]
  refine br_i (fun y1 => ?_) (fun hx => ⟨by rw [show decide ((fs.length : Int) ≤ ((48 : Nat) : Int)) = false from hx]; rfl, rfl⟩)
  rw [show decide ((fs.length : Int) ≤ ((48 : Nat) : Int)) = true from y1, Bool.true_and]
  refine br_i (fun y1 => ?_) (fun hx => ⟨by rw [show decide ((hds.length : Int) ≤ ((16 : Nat) : Int)) = false from hx]; rfl, rfl⟩)
  rw [show decide ((hds.length : Int) ≤ ((16 : Nat) : Int)) = true from y1, Bool.true_and]
  refine ⟨_, _, call_p (enters_of Tryz.func33 (by kernel_rfl) rfl) (from_p 1 32) rfl ?_⟩
  refine ⟨_, call_p (enters_of Tryz.func34 (by kernel_rfl) rfl) g1 rfl ?_⟩
  refine br_i (fun x1 => ?_) (fun hx => ⟨by simp [*], rfl⟩)
  refine ⟨_, _, call_p (enters_of Tryz.func33 (by kernel_rfl) rfl) (from_p 0 32) rfl ?_⟩
  refine ⟨_, call_p (enters_of Tryz.func34 (by kernel_rfl) rfl) g2 rfl ?_⟩
  refine br_i (fun x2 => ?_) (fun hx => ⟨by simp [*], rfl⟩)
  refine ⟨_, _, call_p (enters_of Tryz.func33 (by kernel_rfl) rfl) (from_p 0 256) rfl ?_⟩
  refine ⟨_, call_p (enters_of Tryz.func34 (by kernel_rfl) rfl) g3 rfl ?_⟩
  refine br_i (fun x3 => ?_) (fun hx => ⟨by simp [*], rfl⟩)
  refine ⟨_, call_p (enters_of Tryz.func35 (by kernel_rfl) rfl) hD rfl ?_⟩
  refine br_i (fun x4 => ?_) (fun hx => ⟨by simp [*], rfl⟩)
  refine ⟨_, call_p (enters_of Tryz.func37 (by kernel_rfl) rfl) hF rfl ?_⟩
  refine br_i (fun x5 => ?_) (fun hx => ⟨by simp [*], rfl⟩)
  refine ⟨_, call_p (enters_of Tryz.func18 (by kernel_rfl) rfl) hr rfl ?_⟩
  refine br_i (fun x6 => ?_) (fun hx => ⟨by simp [*], rfl⟩)
  refine ⟨_, call_p (enters_of Tryz.func14 (by kernel_rfl) rfl) hb rfl ?_⟩
  refine br_i (fun x7 => ?_) (fun hx => ⟨by simp [*], rfl⟩)
  exact ⟨_, call_p (enters_of Tryz.func39 (by kernel_rfl) rfl) hH rfl ⟨by simp [*], rfl⟩⟩
end Go.Proofs.YtcmnjodjebcapaaGreat.Deep

namespace Go.Proofs.YtcmnjodjebcapaaGreat.Deep
open Go.RowKit
set_option linter.unusedVariables false
def loops3 (id : Nat) : Option (List Nat × List (Nat × Sh)) := none
def p3 (l1 l2 : List (List PV)) (i3 i4 i5 : Int) (s6 : ByteArray) (l7 : List (List PV)) (i8 i9 i10 i11 i12 : Int) (l13 : List (List PV)) (s14 : ByteArray) (l15 l16 l17 : List (List PV)) (i18 i19 i20 i21 : Int) (l22 : List (List PV)) (s23 : ByteArray) (l24 l25 : List (List PV)) (i26 i27 i28 : Int) (s29 : ByteArray) (i30 : Int) (l31 : List (List PV)) (i32 : Int) (s33 : ByteArray) (l34 : List (List PV)) (Q : PV → Heap → Prop) : Prop :=
∃ b35 : Bool, CallN Tryz.prog 7 [(.agg [l1, l2, i3, i4, i5, s6, l7, i8, i9, i10, i11, i12, l13, s14, l15, l16, l17])] [[l1, l2, i3, i4, i5, s6, l7, i8, i9, i10, i11, i12, l13, s14, l15, l16, l17], [i18, i19, i20, i21, l22, s23, l24, l25], [i26, i27, i28, s29, i30, l31], [i32, s33, l34]] b35
  (br ((!b35))
  (∃ b36 : Bool, CallN Tryz.prog 11 [] [[l1, l2, i3, i4, i5, s6, l7, i8, i9, i10, i11, i12, l13, s14, l15, l16, l17], [i18, i19, i20, i21, l22, s23, l24, l25], [i26, i27, i28, s29, i30, l31], [i32, s33, l34]] b36
  (Q b36 [[l1, l2, i3, i4, i5, s6, l7, i8, i9, i10, i11, i12, l13, s14, l15, l16, l17], [i18, i19, i20, i21, l22, s23, l24, l25], [i26, i27, i28, s29, i30, l31], [i32, s33, l34]]))
  (∃ i37 : Int, CallN Tryz.prog 8 [(.agg [i18, i19, i20, i21, l22, s23, l24, l25]), (.con (.int .i64 3000))] [[l1, l2, i3, i4, i5, s6, l7, i8, i9, i10, i11, i12, l13, s14, l15, l16, l17], [i18, i19, i20, i21, l22, s23, l24, l25], [i26, i27, i28, s29, i30, l31], [i32, s33, l34]] i37
  (br ((decide ((i37 : Int) < 0)))
  (∃ b38 : Bool, CallN Tryz.prog 11 [] [[l1, l2, i3, i4, i5, s6, l7, i8, i9, i10, i11, i12, l13, s14, l15, l16, l17], [i18, i19, i20, i21, l22, s23, l24, l25], [i26, i27, i28, s29, i30, l31], [i32, s33, l34]] b38
  (Q b38 [[l1, l2, i3, i4, i5, s6, l7, i8, i9, i10, i11, i12, l13, s14, l15, l16, l17], [i18, i19, i20, i21, l22, s23, l24, l25], [i26, i27, i28, s29, i30, l31], [i32, s33, l34]]))
  (∃ i39 : Int, CallN Tryz.prog 9 [(.agg [i26, i27, i28, s29, i30, l31]), (.con (.int .i64 3000))] [[l1, l2, i3, i4, i5, s6, l7, i8, i9, i10, i11, i12, l13, s14, l15, l16, l17], [i18, i19, i20, i21, l22, s23, l24, l25], [i26, i27, i28, s29, i30, l31], [i32, s33, l34]] i39
  (br ((decide ((i39 : Int) < 0)))
  (∃ b40 : Bool, CallN Tryz.prog 11 [] [[l1, l2, i3, i4, i5, s6, l7, i8, i9, i10, i11, i12, l13, s14, l15, l16, l17], [i18, i19, i20, i21, l22, s23, l24, l25], [i26, i27, i28, s29, i30, l31], [i32, s33, l34]] b40
  (Q b40 [[l1, l2, i3, i4, i5, s6, l7, i8, i9, i10, i11, i12, l13, s14, l15, l16, l17], [i18, i19, i20, i21, l22, s23, l24, l25], [i26, i27, i28, s29, i30, l31], [i32, s33, l34]]))
  (∃ i41 : Int, CallN Tryz.prog 10 [(.agg [i32, s33, l34]), (.con (.int .i64 3000))] [[l1, l2, i3, i4, i5, s6, l7, i8, i9, i10, i11, i12, l13, s14, l15, l16, l17], [i18, i19, i20, i21, l22, s23, l24, l25], [i26, i27, i28, s29, i30, l31], [i32, s33, l34]] i41
  (br ((decide ((i41 : Int) < 0)))
  (∃ b42 : Bool, CallN Tryz.prog 11 [] [[l1, l2, i3, i4, i5, s6, l7, i8, i9, i10, i11, i12, l13, s14, l15, l16, l17], [i18, i19, i20, i21, l22, s23, l24, l25], [i26, i27, i28, s29, i30, l31], [i32, s33, l34]] b42
  (Q b42 [[l1, l2, i3, i4, i5, s6, l7, i8, i9, i10, i11, i12, l13, s14, l15, l16, l17], [i18, i19, i20, i21, l22, s23, l24, l25], [i26, i27, i28, s29, i30, l31], [i32, s33, l34]]))
  (∃ b43 : Bool, CallN Tryz.prog 12 [(.agg [l1, l2, i3, i4, i5, s6, l7, i8, i9, i10, i11, i12, l13, s14, l15, l16, l17])] [] b43
  (∃ b44 : Bool, CallN Tryz.prog 13 [(.agg [l1, l2, i3, i4, i5, s6, l7, i8, i9, i10, i11, i12, l13, s14, l15, l16, l17])] [] b44
  (br ((b43 == b44))
  (∃ b45 : Bool, CallN Tryz.prog 14 [(.agg [i18, i19, i20, i21, l22, s23, l24, l25])] [] b45
  (∃ b46 : Bool, CallN Tryz.prog 15 [(.agg [i18, i19, i20, i21, l22, s23, l24, l25])] [] b46
  (br ((b45 == b46))
  (∃ b47 : Bool, CallN Tryz.prog 16 [(.agg [i26, i27, i28, s29, i30, l31])] [] b47
  (∃ b48 : Bool, CallN Tryz.prog 17 [(.agg [i26, i27, i28, s29, i30, l31])] [] b48
  (br ((b47 == b48))
  (∃ b49 : Bool, CallN Tryz.prog 18 [(.agg [i32, s33, l34])] [] b49
  (∃ b50 : Bool, CallN Tryz.prog 19 [(.agg [i32, s33, l34])] [] b50
  (br ((b49 == b50))
  (∃ b51 : Bool, CallN Tryz.prog 11 [] [] b51
  (Q b51 [[l1, l2, i3, i4, i5, s6, l7, i8, i9, i10, i11, i12, l13, s14, l15, l16, l17], [i18, i19, i20, i21, l22, s23, l24, l25], [i26, i27, i28, s29, i30, l31], [i32, s33, l34]]))
  (Q (.con (.bool false)) [[l1, l2, i3, i4, i5, s6, l7, i8, i9, i10, i11, i12, l13, s14, l15, l16, l17], [i18, i19, i20, i21, l22, s23, l24, l25], [i26, i27, i28, s29, i30, l31], [i32, s33, l34]]))))
  (Q (.con (.bool false)) [[l1, l2, i3, i4, i5, s6, l7, i8, i9, i10, i11, i12, l13, s14, l15, l16, l17], [i18, i19, i20, i21, l22, s23, l24, l25], [i26, i27, i28, s29, i30, l31], [i32, s33, l34]]))))
  (Q (.con (.bool false)) [[l1, l2, i3, i4, i5, s6, l7, i8, i9, i10, i11, i12, l13, s14, l15, l16, l17], [i18, i19, i20, i21, l22, s23, l24, l25], [i26, i27, i28, s29, i30, l31], [i32, s33, l34]]))))
  (Q (.con (.bool false)) [[l1, l2, i3, i4, i5, s6, l7, i8, i9, i10, i11, i12, l13, s14, l15, l16, l17], [i18, i19, i20, i21, l22, s23, l24, l25], [i26, i27, i28, s29, i30, l31], [i32, s33, l34]])))))))))))
theorem a3 (l1 l2 : List (List PV)) (i3 i4 i5 : Int) (s6 : ByteArray) (l7 : List (List PV)) (i8 i9 i10 i11 i12 : Int) (l13 : List (List PV)) (s14 : ByteArray) (l15 l16 l17 : List (List PV)) (i18 i19 i20 i21 : Int) (l22 : List (List PV)) (s23 : ByteArray) (l24 l25 : List (List PV)) (i26 i27 i28 : Int) (s29 : ByteArray) (i30 : Int) (l31 : List (List PV)) (i32 : Int) (s33 : ByteArray) (l34 : List (List PV)) (Q : PV → Heap → Prop) (h : p3 l1 l2 i3 i4 i5 s6 l7 i8 i9 i10 i11 i12 l13 s14 l15 l16 l17 i18 i19 i20 i21 l22 s23 l24 l25 i26 i27 i28 s29 i30 l31 i32 s33 l34 Q) : ACalls Tryz.prog 3 [(.agg [l1, l2, i3, i4, i5, s6, l7, i8, i9, i10, i11, i12, l13, s14, l15, l16, l17]), (.agg [i18, i19, i20, i21, l22, s23, l24, l25]), (.agg [i26, i27, i28, s29, i30, l31]), (.agg [i32, s33, l34])] [] Q := by
  have hb : Option.some (bodyOf Tryz.f3) = Tryz.f3.body := by kernel_rfl
  exact acalls_eq (S := S) (L := loops3) mixed tok Tryz.func3 hb.symm (by kernel_rfl) h
end Go.Proofs.YtcmnjodjebcapaaGreat.Deep

namespace Go.Proofs.YtcmnjodjebcapaaGreat.Deep
open Go.RowKit
set_option linter.unusedVariables false
set_option linter.unusedSimpArgs false
theorem beq_self_b (b : Bool) : (b == b) = true := by cases b <;> rfl
theorem astFits_p (hA : PCalls Tryz.prog 11 [] (fun r => r = .con (.bool true))) (p : Pr) (e : Ex) (t : Pt) (y : Ty) (hp : wfPr p) (he : wfEx e) : PCalls Tryz.prog 3 [.agg (prP p), .agg (exP e), .agg (ptP t), .agg (tyP y)] (fun r => r = .con (.bool true)) := by
  have l1 := light_p p hp
  have l2 := light_ex e he 3000 (by omega) (by omega)
  have l3 := light_pt t 3000 (by omega) (by omega)
  have l4 := light_ty y 3000 (by omega) (by omega)
  have s1 : 0 ≤ lightPr p 3000 → smallPr p := lightPr_small p hp
  have s2 : 0 ≤ lightEx e 3000 → smallEx e := fun h => (lightEx_ok e 3000).2.2.2 (by omega) h he
  have s3 : 0 ≤ lightPt t 3000 → smallPt t := fun h => (lightPt_ok t 3000).2.2.2 (by omega) h
  have s4 : 0 ≤ lightTy y 3000 → smallTy y := fun h => (lightTy_ok y 3000).2.2.2 (by omega) h
  have f1 : 0 ≤ lightPr p 3000 → _ := fun h => And.intro (prog_p' p (s1 h) hp) (prog_p p (s1 h) hp)
  have f2 : 0 ≤ lightEx e 3000 → _ := fun h => And.intro (fit_exF' e (s2 h) he) (fit_exF e (s2 h) he)
  have f3 : 0 ≤ lightPt t 3000 → _ := fun h => And.intro (fit_ptF' t (s3 h)) (fit_ptF t (s3 h))
  have f4 : 0 ≤ lightTy y 3000 → _ := fun h => And.intro (fit_tyF' y (s4 h)) (fit_tyF y (s4 h))
  clear s1 s2 s3 s4 he hp
  obtain ⟨L1, e1⟩ : ∃ x, lightPr p 3000 = x := ⟨_, rfl⟩
  obtain ⟨L2, e2⟩ : ∃ x, lightEx e 3000 = x := ⟨_, rfl⟩
  obtain ⟨L3, e3⟩ : ∃ x, lightPt t 3000 = x := ⟨_, rfl⟩
  obtain ⟨L4, e4⟩ : ∃ x, lightTy y 3000 = x := ⟨_, rfl⟩
  obtain ⟨B1, g1⟩ : ∃ x, progB p = x := ⟨_, rfl⟩
  obtain ⟨B2, g2⟩ : ∃ x, fitEx 64 e = x := ⟨_, rfl⟩
  obtain ⟨B3, g3⟩ : ∃ x, fitPt 64 t = x := ⟨_, rfl⟩
  obtain ⟨B4, g4⟩ : ∃ x, fitTy 64 y = x := ⟨_, rfl⟩
  rw [e1] at l1 f1
  rw [e2] at l2 f2
  rw [e3] at l3 f3
  rw [e4] at l4 f4
  rw [g1] at f1
  rw [g2] at f2
  rw [g3] at f3
  rw [g4] at f4
  clear e1 e2 e3 e4 g1 g2 g3 g4
  obtain ⟨ds, fs, q, tm, st, cp, ini, hds⟩ := p
  obtain ⟨k, n, ps, hp⟩ := ty_mk st
  obtain ⟨k', li', co', m', b', n', ks', ps', bs', hp2⟩ := ex_mk ini
  obtain ⟨ke, lie, coe, me, be, ne, kse, pse, bse, hp3⟩ := ex_mk e
  obtain ⟨kt, lit, cot, nt, mt, pst, hp4⟩ := pt_mk t
  obtain ⟨ky, ny, psy, hp5⟩ := ty_mk y
  subst hp hp2 hp3 hp4 hp5
  refine a3 _ _ _ _ _ _ _ _ _ _ _ _ _ _ _ _ _ _ _ _ _ _ _ _ _ _ _ _ _ _ _ _ _ _ _ ?_
  unfold p3
  refine ⟨_, call_p (enters_of Tryz.func7 (by kernel_rfl) rfl) l1 rfl ?_⟩
  refine br_i (fun _ => ⟨_, call_p (enters_of Tryz.func11 (by kernel_rfl) rfl) hA rfl ⟨rfl, rfl⟩⟩) (fun c1 => ?_)
  refine ⟨_, call_p (enters_of Tryz.func8 (by kernel_rfl) rfl) l2 rfl ?_⟩
  refine br_i (fun _ => ⟨_, call_p (enters_of Tryz.func11 (by kernel_rfl) rfl) hA rfl ⟨rfl, rfl⟩⟩) (fun c2 => ?_)
  refine ⟨_, call_p (enters_of Tryz.func9 (by kernel_rfl) rfl) l3 rfl ?_⟩
  refine br_i (fun _ => ⟨_, call_p (enters_of Tryz.func11 (by kernel_rfl) rfl) hA rfl ⟨rfl, rfl⟩⟩) (fun c3 => ?_)
  refine ⟨_, call_p (enters_of Tryz.func10 (by kernel_rfl) rfl) l4 rfl ?_⟩
  refine br_i (fun _ => ⟨_, call_p (enters_of Tryz.func11 (by kernel_rfl) rfl) hA rfl ⟨rfl, rfl⟩⟩) (fun c4 => ?_)
  replace f1 := f1 (by simpa using c1)
  replace f2 := f2 (by simpa using c2)
  replace f3 := f3 (by simpa using c3)
  replace f4 := f4 (by simpa using c4)
  refine ⟨_, call_p (enters_of Tryz.func12 (by kernel_rfl) rfl) f1.1 rfl ?_⟩
  refine ⟨_, call_p (enters_of Tryz.func13 (by kernel_rfl) rfl) f1.2 rfl ?_⟩
  refine br_i (fun _ => ?_) (fun c => absurd (beq_self_b B1) (by rw [c]; exact Bool.false_ne_true))
  refine ⟨_, call_p (enters_of Tryz.func14 (by kernel_rfl) rfl) f2.1 rfl ?_⟩
  refine ⟨_, call_p (enters_of Tryz.func15 (by kernel_rfl) rfl) f2.2 rfl ?_⟩
  refine br_i (fun _ => ?_) (fun c => absurd (beq_self_b B2) (by rw [c]; exact Bool.false_ne_true))
  refine ⟨_, call_p (enters_of Tryz.func16 (by kernel_rfl) rfl) f3.1 rfl ?_⟩
  refine ⟨_, call_p (enters_of Tryz.func17 (by kernel_rfl) rfl) f3.2 rfl ?_⟩
  refine br_i (fun _ => ?_) (fun c => absurd (beq_self_b B3) (by rw [c]; exact Bool.false_ne_true))
  refine ⟨_, call_p (enters_of Tryz.func18 (by kernel_rfl) rfl) f4.1 rfl ?_⟩
  refine ⟨_, call_p (enters_of Tryz.func19 (by kernel_rfl) rfl) f4.2 rfl ?_⟩
  refine br_i (fun _ => ?_) (fun c => absurd (beq_self_b B4) (by rw [c]; exact Bool.false_ne_true))
  exact ⟨_, call_p (enters_of Tryz.func11 (by kernel_rfl) rfl) hA rfl ⟨rfl, rfl⟩⟩
end Go.Proofs.YtcmnjodjebcapaaGreat.Deep

namespace Go.Proofs.YtcmnjodjebcapaaGreat.astFits
open Go.ChangeShapes Go.WideShapes Go.ChangeAt Go.RowKit Go.Proofs.YtcmnjodjebcapaaGreat.Deep
set_option linter.unusedVariables false
theorem own : ownKnob Tryz.prog.godebug = none := by kernel_rfl
theorem under4 : Tryz.prog.underlying 4 = some .bool := by kernel_rfl
set_option maxRecDepth 100000 in
theorem walk (hA : PCalls Tryz.prog 11 [] (fun r => r = .con (.bool true))) {H : Type} {enc : TypeId × Value → H} {W : World} {r : Reach} {b0 : Nat} {v0 v1 v2 v3 : Value} {d0 d1 d2 d3 : DataW H} {p0 p1 p2 p3 : List MemPlace}
    (k0 : Value.okWide Tryz.prog W r b0 36 v0) (k1 : Value.okWide Tryz.prog W r b0 33 v1) (k2 : Value.okWide Tryz.prog W r b0 39 v2) (k3 : Value.okWide Tryz.prog W r b0 26 v3)
    (h0 : DataW.Trod enc Tryz.prog W 0 (fun _ => true) true 36 v0 d0 p0) (h1 : DataW.Trod enc Tryz.prog W 0 (fun _ => true) true 33 v1 d1 p1) (h2 : DataW.Trod enc Tryz.prog W 0 (fun _ => true) true 39 v2 d2 p2) (h3 : DataW.Trod enc Tryz.prog W 0 (fun _ => true) true 26 v3 d3 p3) :
    Calls Tryz.prog 3 #[v0, v1, v2, v3] W fun e W' => e = .returned (.bool true) ∧ Below W.heap.size W W' := by
  obtain ⟨a, ha, ra⟩ := open_arg (M := wfPr) (view := prP) tok T36 rfl k0 h0 (fun _ cs x h => open_pr cs x h)
  obtain ⟨b, hb, rb⟩ := open_arg (M := wfEx) (view := exP) tok T33 rfl k1 h1 (fun f cs x h => open_ex f cs x h)
  obtain ⟨c, _, rc⟩ := open_arg (M := fun _ => True) (view := ptP) tok T39 rfl k2 h2 (fun f cs x h => by obtain ⟨z, hz⟩ := open_pt f cs x h; exact ⟨z, trivial, hz⟩)
  obtain ⟨d, _, rd⟩ := open_arg (M := fun _ => True) (view := tyP) tok T26 rfl k3 h3 (fun f cs x h => by obtain ⟨z, hz⟩ := open_ty f cs x h; exact ⟨z, trivial, hz⟩)
  refine law_calls (astFits_p hA a b c d ha hb) (args_list [v0, v1, v2, v3] _ rfl (fun i h h' => ?_))
  match i, h with
  | 0, _ => exact ra
  | 1, _ => exact rb
  | 2, _ => exact rc
  | 3, _ => exact rd
set_option maxRecDepth 100000 in
theorem lifted (hA : PCalls Tryz.prog 11 [] (fun r => r = .con (.bool true))) (os : Os) (started : os.Started) (H : Type) (enc : TypeId × Value → H) :
    ReturnsInHanded {} Tryz.checked os 3 .any (Rows.astFitsSpec.pre6 enc Tryz.prog Tryz.f3 Rows.astFitsRow.domain false) (Rows.astFitsSpec.post enc Tryz.prog Tryz.f3 false true false false) := by
  refine returnsInHanded_of_change (C := Tryz.checked) own started (by kernel_rfl) Tryz.func3
    (ChangeSpec.witness6 (enc := enc) (C := Tryz.checked) false ⟨#[], #[
      .agg #[.slice none 0 0, .slice none 0 0, .int .i64 0, .int .i64 0, .int .i64 0, .string ⟨#[]⟩, .slice none 0 0, .int .i64 0, .int .i64 0, .int .i64 0, .int .i64 0, .int .i64 0, .slice none 0 0, .string ⟨#[]⟩, .slice none 0 0, .slice none 0 0, .slice none 0 0],
      .agg #[.int .i64 0, .int .i64 0, .int .i64 0, .int .i64 0, .slice none 0 0, .string ⟨#[]⟩, .slice none 0 0, .slice none 0 0],
      .agg #[.int .i64 0, .int .i64 0, .int .i64 0, .string ⟨#[]⟩, .int .i64 0, .slice none 0 0],
      .agg #[.int .i64 0, .string ⟨#[]⟩, .slice none 0 0]], []⟩ 8 (by kernel_rfl) (by kernel_rfl) (by kernel_rfl) (by kernel_rfl)) ?_
  intro W base args ds gs before hval0 hW hcnd _
  have hval : ∀ (j : Nat) t v, Tryz.f3.params[j]? = some t → args[j]? = some v → Value.okWide Tryz.prog W .any base t v := hval0
  have hW' := hW
  obtain ⟨p, q, hA0, hV, rfl, hfz, hnd⟩ := hW
  have hA' : DataW.TrodAll enc Tryz.prog W 0 (fun _ => true) true Tryz.f3.params.toList args.toList ds p := hA0
  have hA1 := hA'
  rw [Tryz.params3] at hA' hval
  obtain ⟨v0, vs0, d0, ds0, p0, q0, hargs, rfl, rfl, h0, r0⟩ := trodAll_cons hA'
  obtain ⟨v1, vs1, d1, ds1, p1, q1, rfl, rfl, rfl, h1, r1⟩ := trodAll_cons r0
  obtain ⟨v2, vs2, d2, ds2, p2, q2, rfl, rfl, rfl, h2, r2⟩ := trodAll_cons r1
  obtain ⟨v3, vs3, d3, ds3, p3, q3, rfl, rfl, rfl, h3, r3⟩ := trodAll_cons r2
  obtain ⟨rfl, rfl, rfl⟩ := trodAll_nil r3
  obtain rfl : args = #[v0, v1, v2, v3] := by cases args; simp_all
  obtain ⟨rfl, rfl⟩ := trodVars_none hV
  have hlt := hW'.lt
  refine (walk hA (hval 0 36 v0 rfl rfl) (hval 1 33 v1 rfl rfl) (hval 2 39 v2 rfl rfl) (hval 3 26 v3 rfl rfl) h0 h1 h2 h3).mono fun e W' ⟨he, hg⟩ => ?_
  subst he
  refine ⟨_, rfl, post_law (pv := []) hW' (fun _ _ _ => (trodAll_cons_mk (shut_bool under4 _) trodAll_mk0)) (fun sp hsp => ?_) (fun _ _ => rfl) rfl hg⟩
  refine args_again (P := Tryz.prog) (by kernel_rfl) hg Tryz.f3.params.toList ?_ _ _ _ hA1 (fun x hx => hlt x (List.mem_append_left _ hx)) sp (fun x hx => hsp x (List.mem_append_left _ hx))
  rw [Tryz.params3]
  intro t ht
  have hm : t ∈ [36, 33, 39, 26] := by simpa using ht
  have hall : ([36, 33, 39, 26].all fun u => Tryz.prog.readableRec u && decide (u < Tryz.prog.types.size)) = true := by kernel_rfl
  have := List.all_eq_true.1 hall t hm
  simpa using this
theorem over (hA : PCalls Tryz.prog 11 [] (fun r => r = .con (.bool true))) : Rows.astFitsRow.holds Tryz.pinned (OpenSpec.ofChange Rows.astFitsSpec) :=
  OpenClaim.holds_of_wide 3 Tryz.f3 rfl rfl rfl rfl rfl rfl rfl ⟨rfl, rfl, rfl, rfl, rfl⟩ rfl rfl rfl rfl rfl (by kernel_rfl) Tryz.func3 (by kernel_rfl)
    (of_decide_eq_true (by kernel_rfl)) (by unfold Func.isWrapper; first | (rw [if_pos (by decide +kernel)]; kernel_rfl) | (rw [if_neg (by decide +kernel)]; exact ⟨rfl, rfl⟩))
    (fun os started H enc _ => lifted hA os started H enc)
end Go.Proofs.YtcmnjodjebcapaaGreat.astFits

namespace Go.Proofs.YtcmnjodjebcapaaGreat.Deep
open Go.RowKit
set_option linter.unusedVariables false
def loops21 (id : Nat) : Option (List Nat × List (Nat × Sh)) := none
def p21 (i1 i2 i3 i4 : Int) (l5 : List (List PV)) (s6 : ByteArray) (l7 l8 : List (List PV)) (Q : PV → Heap → Prop) : Prop :=
∃ i9 : Int, ∃ i10 : Int, CallN Tryz.prog 59 [(.agg [(.con (.int .i64 0)), (.con (.int .i64 0))]), (.agg [i1, i2, i3, i4, l5, s6, l7, l8])] [[i1, i2, i3, i4, l5, s6, l7, l8]] (.agg [i9, i10])
  (Q (.tup [i9, i10]) [[i1, i2, i3, i4, l5, s6, l7, l8], [i9, i10]])
theorem a21 (i1 i2 i3 i4 : Int) (l5 : List (List PV)) (s6 : ByteArray) (l7 l8 : List (List PV)) (Q : PV → Heap → Prop) (h : p21 i1 i2 i3 i4 l5 s6 l7 l8 Q) : ACalls Tryz.prog 21 [(.agg [i1, i2, i3, i4, l5, s6, l7, l8])] [] Q := by
  have hb : Option.some (bodyOf Tryz.f21) = Tryz.f21.body := by kernel_rfl
  exact acalls_eq (S := S) (L := loops21) mixed tok Tryz.func21 hb.symm (by kernel_rfl) h
def loops59 (id : Nat) : Option (List Nat × List (Nat × Sh)) := none
def p59 (i1 i2 i3 i4 i5 i6 : Int) (l7 : List (List PV)) (s8 : ByteArray) (l9 l10 : List (List PV)) (Q : PV → Heap → Prop) : Prop :=
∃ i11 : Int, ∃ i12 : Int, CallN Tryz.prog 127 [l9, (.agg [(IntKind.wrap .i64 (i1 + 1)), i2]), (.fn 128 [])] [[(IntKind.wrap .i64 (i1 + 1)), i2], [i3, i4, i5, i6, l7, s8, l9, l10], [(.con (.int .i64 0)), (.con (.int .i64 0))]] (.agg [i11, i12])
  (∃ i13 : Int, ∃ i14 : Int, CallN Tryz.prog 129 [l10, (.agg [i11, i12]), (.fn 130 [])] [[i11, i12], [i3, i4, i5, i6, l7, s8, l9, l10], [(.con (.int .i64 0)), (.con (.int .i64 0))]] (.agg [i13, i14])
  (Q (.agg [i13, i14]) [[i11, i12], [i3, i4, i5, i6, l7, s8, l9, l10], [i13, i14]]))
theorem a59 (i1 i2 i3 i4 i5 i6 : Int) (l7 : List (List PV)) (s8 : ByteArray) (l9 l10 : List (List PV)) (Q : PV → Heap → Prop) (h : p59 i1 i2 i3 i4 i5 i6 l7 s8 l9 l10 Q) : ACalls Tryz.prog 59 [(.agg [i1, i2]), (.agg [i3, i4, i5, i6, l7, s8, l9, l10])] [] Q := by
  have hb : Option.some (bodyOf Tryz.f59) = Tryz.f59.body := by kernel_rfl
  exact acalls_eq (S := S) (L := loops59) mixed tok Tryz.func59 hb.symm (by kernel_rfl) h
def loops131 (id : Nat) : Option (List Nat × List (Nat × Sh)) := none
def p131 (i1 i2 i3 i4 i5 : Int) (s6 : ByteArray) (i7 : Int) (l8 : List (List PV)) (Q : PV → Heap → Prop) : Prop :=
∃ i9 : Int, ∃ i10 : Int, CallN Tryz.prog 186 [l8, (.agg [i1, (IntKind.wrap .i64 (i2 + 1))]), (.fn 187 [])] [[i1, (IntKind.wrap .i64 (i2 + 1))], [i3, i4, i5, s6, i7, l8], [(.con (.int .i64 0)), (.con (.int .i64 0))]] (.agg [i9, i10])
  (Q (.agg [i9, i10]) [[i1, (IntKind.wrap .i64 (i2 + 1))], [i3, i4, i5, s6, i7, l8], [i9, i10]])
theorem a131 (i1 i2 i3 i4 i5 : Int) (s6 : ByteArray) (i7 : Int) (l8 : List (List PV)) (Q : PV → Heap → Prop) (h : p131 i1 i2 i3 i4 i5 s6 i7 l8 Q) : ACalls Tryz.prog 131 [(.agg [i1, i2]), (.agg [i3, i4, i5, s6, i7, l8])] [] Q := by
  have hb : Option.some (bodyOf Tryz.f131) = Tryz.f131.body := by kernel_rfl
  exact acalls_eq (S := S) (L := loops131) mixed tok Tryz.func131 hb.symm (by kernel_rfl) h
def loops128 (id : Nat) : Option (List Nat × List (Nat × Sh)) := none
def p128 (i1 i2 i3 i4 i5 i6 i7 : Int) (l8 : List (List PV)) (s9 : ByteArray) (l10 l11 : List (List PV)) (Q : PV → Heap → Prop) : Prop :=
∃ i12 : Int, ∃ i13 : Int, CallN Tryz.prog 59 [(.agg [i1, i2]), (.agg [i4, i5, i6, i7, l8, s9, l10, l11])] [[i1, i2], [i4, i5, i6, i7, l8, s9, l10, l11], [(.con (.int .i64 0)), (.con (.int .i64 0))]] (.agg [i12, i13])
  (Q (.agg [i12, i13]) [[i1, i2], [i4, i5, i6, i7, l8, s9, l10, l11], [i12, i13]])
theorem a128 (i1 i2 i3 i4 i5 i6 i7 : Int) (l8 : List (List PV)) (s9 : ByteArray) (l10 l11 : List (List PV)) (Q : PV → Heap → Prop) (h : p128 i1 i2 i3 i4 i5 i6 i7 l8 s9 l10 l11 Q) : ACalls Tryz.prog 128 [(.agg [i1, i2]), i3, (.agg [i4, i5, i6, i7, l8, s9, l10, l11])] [] Q := by
  have hb : Option.some (bodyOf Tryz.f128) = Tryz.f128.body := by kernel_rfl
  exact acalls_eq (S := S) (L := loops128) mixed tok Tryz.func128 hb.symm (by kernel_rfl) h
def loops130 (id : Nat) : Option (List Nat × List (Nat × Sh)) := none
def p130 (i1 i2 i3 i4 i5 i6 : Int) (s7 : ByteArray) (i8 : Int) (l9 : List (List PV)) (i10 i11 i12 i13 : Int) (l14 : List (List PV)) (s15 : ByteArray) (l16 l17 : List (List PV)) (Q : PV → Heap → Prop) : Prop :=
∃ i18 : Int, ∃ i19 : Int, CallN Tryz.prog 131 [(.agg [i1, i2]), (.agg [i4, i5, i6, s7, i8, l9])] [[i1, i2], [i4, i5, i6, s7, i8, l9, i10, i11, i12, i13, l14, s15, l16, l17], [(.con (.int .i64 0)), (.con (.int .i64 0))]] (.agg [i18, i19])
  (∃ i20 : Int, ∃ i21 : Int, CallN Tryz.prog 59 [(.agg [i18, i19]), (.agg [i10, i11, i12, i13, l14, s15, l16, l17])] [[i1, i2], [i4, i5, i6, s7, i8, l9, i10, i11, i12, i13, l14, s15, l16, l17], [(.con (.int .i64 0)), (.con (.int .i64 0))]] (.agg [i20, i21])
  (Q (.agg [i20, i21]) [[i1, i2], [i4, i5, i6, s7, i8, l9, i10, i11, i12, i13, l14, s15, l16, l17], [i20, i21]]))
theorem a130 (i1 i2 i3 i4 i5 i6 : Int) (s7 : ByteArray) (i8 : Int) (l9 : List (List PV)) (i10 i11 i12 i13 : Int) (l14 : List (List PV)) (s15 : ByteArray) (l16 l17 : List (List PV)) (Q : PV → Heap → Prop) (h : p130 i1 i2 i3 i4 i5 i6 s7 i8 l9 i10 i11 i12 i13 l14 s15 l16 l17 Q) : ACalls Tryz.prog 130 [(.agg [i1, i2]), i3, (.agg [i4, i5, i6, s7, i8, l9, i10, i11, i12, i13, l14, s15, l16, l17])] [] Q := by
  have hb : Option.some (bodyOf Tryz.f130) = Tryz.f130.body := by kernel_rfl
  exact acalls_eq (S := S) (L := loops130) mixed tok Tryz.func130 hb.symm (by kernel_rfl) h
def loops187 (id : Nat) : Option (List Nat × List (Nat × Sh)) := none
def p187 (i1 i2 i3 i4 i5 i6 : Int) (s7 : ByteArray) (i8 : Int) (l9 : List (List PV)) (Q : PV → Heap → Prop) : Prop :=
∃ i10 : Int, ∃ i11 : Int, CallN Tryz.prog 131 [(.agg [i1, i2]), (.agg [i4, i5, i6, s7, i8, l9])] [[i1, i2], [i4, i5, i6, s7, i8, l9], [(.con (.int .i64 0)), (.con (.int .i64 0))]] (.agg [i10, i11])
  (Q (.agg [i10, i11]) [[i1, i2], [i4, i5, i6, s7, i8, l9], [i10, i11]])
theorem a187 (i1 i2 i3 i4 i5 i6 : Int) (s7 : ByteArray) (i8 : Int) (l9 : List (List PV)) (Q : PV → Heap → Prop) (h : p187 i1 i2 i3 i4 i5 i6 s7 i8 l9 Q) : ACalls Tryz.prog 187 [(.agg [i1, i2]), i3, (.agg [i4, i5, i6, s7, i8, l9])] [] Q := by
  have hb : Option.some (bodyOf Tryz.f187) = Tryz.f187.body := by kernel_rfl
  exact acalls_eq (S := S) (L := loops187) mixed tok Tryz.func187 hb.symm (by kernel_rfl) h
def loops127k (id : Nat) : Option (List Nat × List (Nat × Sh)) := match Nat.beq id 2 with | true => some ([2, 4, 6, 9, 10], [(11, .int .i64), (1000000, .int .i64), (1000001, .int .i64)]) | false => none
def p127k (l1 : List (List PV)) (i2 i3 : Int) (Q : PV → Heap → Prop) : Prop :=
∃ I4 : Nat → ((Int) × (Int) × (Int) × Unit) → Prop, (∃ n, I4 n (0, i2, i3, ())) ∧ ∀ (n5 : Nat) (v6 : (Int) × (Int) × (Int) × Unit), I4 n5 v6 →
  (br ((decide ((v6.1 : Int) < (List.length l1 : Int))))
  (∃ i7 : Int, ∃ i8 : Int, ∃ i9 : Int, ∃ i10 : Int, ∃ l11 : List (List PV), ∃ s12 : ByteArray, ∃ l13 : List (List PV), ∃ l14 : List (List PV), IdxN l1 v6.1 [i7, i8, i9, i10, l11, s12, l13, l14]
  (∃ i15 : Int, ∃ i16 : Int, CallN Tryz.prog 128 [(.agg [v6.2.1, v6.2.2.1]), v6.1, (.agg [i7, i8, i9, i10, l11, s12, l13, l14])] [[v6.2.1, v6.2.2.1], [(.con (.int .i64 0)), (.con (.int .i64 0))], [i7, i8, i9, i10, l11, s12, l13, l14]] (.agg [i15, i16])
  ((@Eq PV (.fn 128 []) (.fn 128 []) ∧ @Eq PV (.ptr 0 0) (.ptr 0 0) ∧ @Eq PV (.ptr 1 0) (.ptr 1 0) ∧ @Eq PV l1 l1 ∧ @Eq PV (.con (.int .i64 (List.length l1 : Int))) (.con (.int .i64 (List.length l1 : Int))) ∧ True) ∧ @Eq Heap [[i15, i16], [(.con (.int .i64 0)), (.con (.int .i64 0))]] [[i15, i16], [(.con (.int .i64 0)), (.con (.int .i64 0))]] ∧ ∃ k17, k17 < n5 ∧ I4 k17 ((IntKind.wrap .i64 (v6.1 + 1)), i15, i16, ()))))
  (Q (.agg [v6.2.1, v6.2.2.1]) [[v6.2.1, v6.2.2.1], [v6.2.1, v6.2.2.1]]))
theorem a127k (l1 : List (List PV)) (i2 i3 : Int) (Q : PV → Heap → Prop) (h : p127k l1 i2 i3 Q) : ACalls Tryz.prog 127 [l1, (.agg [i2, i3]), (.fn 128 [])] [] Q := by
  have hb : Option.some (bodyOf Tryz.f127) = Tryz.f127.body := by kernel_rfl
  exact acalls_eq (S := S) (L := loops127k) mixed tok Tryz.func127 hb.symm (by kernel_rfl) h
def loops129k (id : Nat) : Option (List Nat × List (Nat × Sh)) := match Nat.beq id 2 with | true => some ([2, 4, 6, 9, 10], [(11, .int .i64), (1000000, .int .i64), (1000001, .int .i64)]) | false => none
def p129k (l1 : List (List PV)) (i2 i3 : Int) (Q : PV → Heap → Prop) : Prop :=
∃ I4 : Nat → ((Int) × (Int) × (Int) × Unit) → Prop, (∃ n, I4 n (0, i2, i3, ())) ∧ ∀ (n5 : Nat) (v6 : (Int) × (Int) × (Int) × Unit), I4 n5 v6 →
  (br ((decide ((v6.1 : Int) < (List.length l1 : Int))))
  (∃ i7 : Int, ∃ i8 : Int, ∃ i9 : Int, ∃ s10 : ByteArray, ∃ i11 : Int, ∃ l12 : List (List PV), ∃ i13 : Int, ∃ i14 : Int, ∃ i15 : Int, ∃ i16 : Int, ∃ l17 : List (List PV), ∃ s18 : ByteArray, ∃ l19 : List (List PV), ∃ l20 : List (List PV), IdxN l1 v6.1 [i7, i8, i9, s10, i11, l12, i13, i14, i15, i16, l17, s18, l19, l20]
  (∃ i21 : Int, ∃ i22 : Int, CallN Tryz.prog 130 [(.agg [v6.2.1, v6.2.2.1]), v6.1, (.agg [i7, i8, i9, s10, i11, l12, i13, i14, i15, i16, l17, s18, l19, l20])] [[v6.2.1, v6.2.2.1], [(.con (.int .i64 0)), (.con (.int .i64 0))], [i7, i8, i9, s10, i11, l12, i13, i14, i15, i16, l17, s18, l19, l20]] (.agg [i21, i22])
  ((@Eq PV (.fn 130 []) (.fn 130 []) ∧ @Eq PV (.ptr 0 0) (.ptr 0 0) ∧ @Eq PV (.ptr 1 0) (.ptr 1 0) ∧ @Eq PV l1 l1 ∧ @Eq PV (.con (.int .i64 (List.length l1 : Int))) (.con (.int .i64 (List.length l1 : Int))) ∧ True) ∧ @Eq Heap [[i21, i22], [(.con (.int .i64 0)), (.con (.int .i64 0))]] [[i21, i22], [(.con (.int .i64 0)), (.con (.int .i64 0))]] ∧ ∃ k23, k23 < n5 ∧ I4 k23 ((IntKind.wrap .i64 (v6.1 + 1)), i21, i22, ()))))
  (Q (.agg [v6.2.1, v6.2.2.1]) [[v6.2.1, v6.2.2.1], [v6.2.1, v6.2.2.1]]))
theorem a129k (l1 : List (List PV)) (i2 i3 : Int) (Q : PV → Heap → Prop) (h : p129k l1 i2 i3 Q) : ACalls Tryz.prog 129 [l1, (.agg [i2, i3]), (.fn 130 [])] [] Q := by
  have hb : Option.some (bodyOf Tryz.f129) = Tryz.f129.body := by kernel_rfl
  exact acalls_eq (S := S) (L := loops129k) mixed tok Tryz.func129 hb.symm (by kernel_rfl) h
def loops186k (id : Nat) : Option (List Nat × List (Nat × Sh)) := match Nat.beq id 2 with | true => some ([2, 4, 6, 9, 10], [(11, .int .i64), (1000000, .int .i64), (1000001, .int .i64)]) | false => none
def p186k (l1 : List (List PV)) (i2 i3 : Int) (Q : PV → Heap → Prop) : Prop :=
∃ I4 : Nat → ((Int) × (Int) × (Int) × Unit) → Prop, (∃ n, I4 n (0, i2, i3, ())) ∧ ∀ (n5 : Nat) (v6 : (Int) × (Int) × (Int) × Unit), I4 n5 v6 →
  (br ((decide ((v6.1 : Int) < (List.length l1 : Int))))
  (∃ i7 : Int, ∃ i8 : Int, ∃ i9 : Int, ∃ s10 : ByteArray, ∃ i11 : Int, ∃ l12 : List (List PV), IdxN l1 v6.1 [i7, i8, i9, s10, i11, l12]
  (∃ i13 : Int, ∃ i14 : Int, CallN Tryz.prog 187 [(.agg [v6.2.1, v6.2.2.1]), v6.1, (.agg [i7, i8, i9, s10, i11, l12])] [[v6.2.1, v6.2.2.1], [(.con (.int .i64 0)), (.con (.int .i64 0))], [i7, i8, i9, s10, i11, l12]] (.agg [i13, i14])
  ((@Eq PV (.fn 187 []) (.fn 187 []) ∧ @Eq PV (.ptr 0 0) (.ptr 0 0) ∧ @Eq PV (.ptr 1 0) (.ptr 1 0) ∧ @Eq PV l1 l1 ∧ @Eq PV (.con (.int .i64 (List.length l1 : Int))) (.con (.int .i64 (List.length l1 : Int))) ∧ True) ∧ @Eq Heap [[i13, i14], [(.con (.int .i64 0)), (.con (.int .i64 0))]] [[i13, i14], [(.con (.int .i64 0)), (.con (.int .i64 0))]] ∧ ∃ k15, k15 < n5 ∧ I4 k15 ((IntKind.wrap .i64 (v6.1 + 1)), i13, i14, ()))))
  (Q (.agg [v6.2.1, v6.2.2.1]) [[v6.2.1, v6.2.2.1], [v6.2.1, v6.2.2.1]]))
theorem a186k (l1 : List (List PV)) (i2 i3 : Int) (Q : PV → Heap → Prop) (h : p186k l1 i2 i3 Q) : ACalls Tryz.prog 186 [l1, (.agg [i2, i3]), (.fn 187 [])] [] Q := by
  have hb : Option.some (bodyOf Tryz.f186) = Tryz.f186.body := by kernel_rfl
  exact acalls_eq (S := S) (L := loops186k) mixed tok Tryz.func186 hb.symm (by kernel_rfl) h
end Go.Proofs.YtcmnjodjebcapaaGreat.Deep

namespace Go.Proofs.YtcmnjodjebcapaaGreat.Deep
open Go.RowKit
set_option linter.unusedVariables false
set_option linter.unusedSimpArgs false
def W (n : Int) : Int := IntKind.i64.wrap n
theorem W_l (a b : Int) : IntKind.i64.wrap (W a + b) = W (a + b) := by unfold W; simp only [IntKind.wrap_i64]; omega
theorem W_zero : W 0 = 0 := by decide
mutual
def cntP : Pt → Int
  | .mk _ _ _ _ _ ks => 1 + cntPs ks
def cntPs : List Pt → Int
  | [] => 0
  | t :: ts => cntP t + cntPs ts
end
mutual
def cntE : Ex → Int
  | .mk _ _ _ _ _ _ ks _ bs => 1 + (cntEs ks + cntEs bs)
def cntEs : List Ex → Int
  | [] => 0
  | t :: ts => cntE t + cntEs ts
end
mutual
def cntQ : Ex → Int
  | .mk _ _ _ _ _ _ ks ps bs => cntQs ks + (cntPs ps + cntQs bs)
def cntQs : List Ex → Int
  | [] => 0
  | t :: ts => cntQ t + cntQs ts
end
def sumTo (f : Nat → Int) : Nat → Int
  | 0 => 0
  | n + 1 => sumTo f n + f n
theorem sumTo_add (f g : Nat → Int) : ∀ n, sumTo (fun j => f j + g j) n = sumTo f n + sumTo g n
  | 0 => rfl
  | n + 1 => by simp only [sumTo]; rw [sumTo_add f g n]; omega
theorem sumTo_zero : ∀ n, sumTo (fun _ => 0) n = 0
  | 0 => rfl
  | n + 1 => by simp only [sumTo]; rw [sumTo_zero n]; rfl
theorem sumTo_shift (f : Nat → Int) : ∀ n, sumTo f (n + 1) = f 0 + sumTo (fun j => f (j + 1)) n
  | 0 => by simp [sumTo]
  | n + 1 => by rw [sumTo, sumTo_shift f n, sumTo]; omega
theorem cntPs_sum (d : Pt) : ∀ ts : List Pt, cntPs ts = sumTo (fun j => cntP (ts.getD j d)) ts.length
  | [] => rfl
  | t :: ts => by rw [cntPs, cntPs_sum d ts, List.length_cons, sumTo_shift]; rfl
theorem cntEs_sum (d : Ex) : ∀ ts : List Ex, cntEs ts = sumTo (fun j => cntE (ts.getD j d)) ts.length
  | [] => rfl
  | t :: ts => by rw [cntEs, cntEs_sum d ts, List.length_cons, sumTo_shift]; rfl
theorem cntQs_sum (d : Ex) : ∀ ts : List Ex, cntQs ts = sumTo (fun j => cntQ (ts.getD j d)) ts.length
  | [] => rfl
  | t :: ts => by rw [cntQs, cntQs_sum d ts, List.length_cons, sumTo_shift]; rfl
def cP (a b : Int) : PV := .agg [.con (.int .i64 (W a)), .con (.int .i64 (W b))]
theorem countE (l : List (List PV)) (n : Nat) (hn : l.length = n) (hm : n ≤ 9223372036854775806) (f g : Nat → Int) (H : ∀ j, j < n → ∃ x0 : Int, ∃ x1 : Int, ∃ x2 : Int, ∃ x3 : Int, ∃ x4 : List (List PV), ∃ x5 : ByteArray, ∃ x6 : List (List PV), ∃ x7 : List (List PV), l[j]? = some [.con (.int .i64 x0), .con (.int .i64 x1), .con (.int .i64 x2), .con (.int .i64 x3), .sl x4, .con (.string x5), .sl x6, .sl x7] ∧ ∀ a b : Int, PCalls Tryz.prog 128 [cP a b, .con (.int .i64 j), .agg [.con (.int .i64 x0), .con (.int .i64 x1), .con (.int .i64 x2), .con (.int .i64 x3), .sl x4, .con (.string x5), .sl x6, .sl x7]] (fun r => r = cP (a + f j) (b + g j))) (a b : Int) : PCalls Tryz.prog 127 [.sl l, cP a b, .fn 128 []] (fun r => r = cP (a + sumTo f n) (b + sumTo g n)) := by
  refine a127k _ _ _ _ ?_
  unfold p127k
  rw [hn]
  refine ⟨fun c v => ∃ j : Nat, j ≤ n ∧ c = n - j ∧ v.1 = (j : Int) ∧ v.2.1 = W (a + sumTo f j) ∧ v.2.2.1 = W (b + sumTo g j), ⟨_, 0, Nat.zero_le _, rfl, rfl, by simp [sumTo], by simp [sumTo]⟩, ?_⟩
  rintro c ⟨i, p, q, u⟩ ⟨j, hj, rfl, hi, hp, hq⟩
  dsimp only at hi hp hq ⊢
  subst hi hp hq
  refine br_i (fun hlt => ?_) (fun hge => ?_)
  · have hlt : j < n := by simpa using hlt
    obtain ⟨x0, x1, x2, x3, x4, x5, x6, x7, hx, hc⟩ := H j hlt
    refine ⟨_, _, _, _, _, _, _, _, ⟨by omega, by rw [Int.toNat_natCast]; exact hx, ?_⟩⟩
    refine ⟨_, _, call_p (enters_of Tryz.func128 (by kernel_rfl) rfl) (hc (a + sumTo f j) (b + sumTo g j)) rfl ⟨⟨by trivial, by trivial, by trivial, by trivial, by trivial, trivial⟩, by trivial, n - (j + 1), by omega, j + 1, by omega, rfl, ?_, ?_, ?_⟩⟩
    · rw [wrap_id (by omega) (by omega)]; simp
    · rw [sumTo, Int.add_assoc]
    · rw [sumTo, Int.add_assoc]
  · have hge : ¬ j < n := by simpa using hge
    obtain rfl : j = n := by omega
    exact ⟨rfl, rfl⟩
theorem countA (l : List (List PV)) (n : Nat) (hn : l.length = n) (hm : n ≤ 9223372036854775806) (f g : Nat → Int) (H : ∀ j, j < n → ∃ x0 : Int, ∃ x1 : Int, ∃ x2 : Int, ∃ x3 : ByteArray, ∃ x4 : Int, ∃ x5 : List (List PV), ∃ x6 : Int, ∃ x7 : Int, ∃ x8 : Int, ∃ x9 : Int, ∃ x10 : List (List PV), ∃ x11 : ByteArray, ∃ x12 : List (List PV), ∃ x13 : List (List PV), l[j]? = some [.con (.int .i64 x0), .con (.int .i64 x1), .con (.int .i64 x2), .con (.string x3), .con (.int .i64 x4), .sl x5, .con (.int .i64 x6), .con (.int .i64 x7), .con (.int .i64 x8), .con (.int .i64 x9), .sl x10, .con (.string x11), .sl x12, .sl x13] ∧ ∀ a b : Int, PCalls Tryz.prog 130 [cP a b, .con (.int .i64 j), .agg [.con (.int .i64 x0), .con (.int .i64 x1), .con (.int .i64 x2), .con (.string x3), .con (.int .i64 x4), .sl x5, .con (.int .i64 x6), .con (.int .i64 x7), .con (.int .i64 x8), .con (.int .i64 x9), .sl x10, .con (.string x11), .sl x12, .sl x13]] (fun r => r = cP (a + f j) (b + g j))) (a b : Int) : PCalls Tryz.prog 129 [.sl l, cP a b, .fn 130 []] (fun r => r = cP (a + sumTo f n) (b + sumTo g n)) := by
  refine a129k _ _ _ _ ?_
  unfold p129k
  rw [hn]
  refine ⟨fun c v => ∃ j : Nat, j ≤ n ∧ c = n - j ∧ v.1 = (j : Int) ∧ v.2.1 = W (a + sumTo f j) ∧ v.2.2.1 = W (b + sumTo g j), ⟨_, 0, Nat.zero_le _, rfl, rfl, by simp [sumTo], by simp [sumTo]⟩, ?_⟩
  rintro c ⟨i, p, q, u⟩ ⟨j, hj, rfl, hi, hp, hq⟩
  dsimp only at hi hp hq ⊢
  subst hi hp hq
  refine br_i (fun hlt => ?_) (fun hge => ?_)
  · have hlt : j < n := by simpa using hlt
    obtain ⟨x0, x1, x2, x3, x4, x5, x6, x7, x8, x9, x10, x11, x12, x13, hx, hc⟩ := H j hlt
    refine ⟨_, _, _, _, _, _, _, _, _, _, _, _, _, _, ⟨by omega, by rw [Int.toNat_natCast]; exact hx, ?_⟩⟩
    refine ⟨_, _, call_p (enters_of Tryz.func130 (by kernel_rfl) rfl) (hc (a + sumTo f j) (b + sumTo g j)) rfl ⟨⟨by trivial, by trivial, by trivial, by trivial, by trivial, trivial⟩, by trivial, n - (j + 1), by omega, j + 1, by omega, rfl, ?_, ?_, ?_⟩⟩
    · rw [wrap_id (by omega) (by omega)]; simp
    · rw [sumTo, Int.add_assoc]
    · rw [sumTo, Int.add_assoc]
  · have hge : ¬ j < n := by simpa using hge
    obtain rfl : j = n := by omega
    exact ⟨rfl, rfl⟩
theorem countP (l : List (List PV)) (n : Nat) (hn : l.length = n) (hm : n ≤ 9223372036854775806) (f g : Nat → Int) (H : ∀ j, j < n → ∃ x0 : Int, ∃ x1 : Int, ∃ x2 : Int, ∃ x3 : ByteArray, ∃ x4 : Int, ∃ x5 : List (List PV), l[j]? = some [.con (.int .i64 x0), .con (.int .i64 x1), .con (.int .i64 x2), .con (.string x3), .con (.int .i64 x4), .sl x5] ∧ ∀ a b : Int, PCalls Tryz.prog 187 [cP a b, .con (.int .i64 j), .agg [.con (.int .i64 x0), .con (.int .i64 x1), .con (.int .i64 x2), .con (.string x3), .con (.int .i64 x4), .sl x5]] (fun r => r = cP (a + f j) (b + g j))) (a b : Int) : PCalls Tryz.prog 186 [.sl l, cP a b, .fn 187 []] (fun r => r = cP (a + sumTo f n) (b + sumTo g n)) := by
  refine a186k _ _ _ _ ?_
  unfold p186k
  rw [hn]
  refine ⟨fun c v => ∃ j : Nat, j ≤ n ∧ c = n - j ∧ v.1 = (j : Int) ∧ v.2.1 = W (a + sumTo f j) ∧ v.2.2.1 = W (b + sumTo g j), ⟨_, 0, Nat.zero_le _, rfl, rfl, by simp [sumTo], by simp [sumTo]⟩, ?_⟩
  rintro c ⟨i, p, q, u⟩ ⟨j, hj, rfl, hi, hp, hq⟩
  dsimp only at hi hp hq ⊢
  subst hi hp hq
  refine br_i (fun hlt => ?_) (fun hge => ?_)
  · have hlt : j < n := by simpa using hlt
    obtain ⟨x0, x1, x2, x3, x4, x5, hx, hc⟩ := H j hlt
    refine ⟨_, _, _, _, _, _, ⟨by omega, by rw [Int.toNat_natCast]; exact hx, ?_⟩⟩
    refine ⟨_, _, call_p (enters_of Tryz.func187 (by kernel_rfl) rfl) (hc (a + sumTo f j) (b + sumTo g j)) rfl ⟨⟨by trivial, by trivial, by trivial, by trivial, by trivial, trivial⟩, by trivial, n - (j + 1), by omega, j + 1, by omega, rfl, ?_, ?_, ?_⟩⟩
    · rw [wrap_id (by omega) (by omega)]; simp
    · rw [sumTo, Int.add_assoc]
    · rw [sumTo, Int.add_assoc]
  · have hge : ¬ j < n := by simpa using hge
    obtain rfl : j = n := by omega
    exact ⟨rfl, rfl⟩
theorem cnt_pt (t : Pt) : smallPt t → ∀ a b : Int, PCalls Tryz.prog 131 [cP a b, .agg (ptP t)] (fun r => r = cP a (b + cntP t)) := by
  induction t using Pt.ind with
  | h k li co n m ps ih =>
  intro hs a b
  unfold smallPt at hs
  have hF := countP (ptPs ps) ps.length (ptPs_len ps) (by omega) (fun _ => 0) (fun j => cntP (ps.getD j Pt.zero)) (fun j hj => by
    have hx := ptPs_get ps j hj
    have hi := ih j hj (smallPts_get ps hs.2.2 j hj)
    rw [getD_at ps Pt.zero j hj]
    obtain ⟨k', li', co', n', m', ps', hp⟩ := pt_mk ps[j]
    rw [hp] at hx hi ⊢
    refine ⟨_, _, _, _, _, _, hx, fun a b => ?_⟩
    refine a187 _ _ _ _ _ _ _ _ _ _ ?_
    unfold p187
    rw [Int.add_zero]
    exact ⟨_, _, call_p (enters_of Tryz.func131 (by kernel_rfl) rfl) (hi a b) rfl ⟨rfl, rfl⟩⟩) a (b + 1)
  rw [sumTo_zero, Int.add_zero, ← cntPs_sum, Int.add_assoc] at hF
  unfold cntP
  refine a131 _ _ _ _ _ _ _ _ _ ?_
  unfold p131
  rw [W_l]
  exact ⟨_, _, call_p (enters_of Tryz.func186 (by kernel_rfl) rfl) hF rfl ⟨rfl, rfl⟩⟩
theorem cnt_ex (t : Ex) : smallEx t → wfEx t → ∀ a b : Int, PCalls Tryz.prog 59 [cP a b, .agg (exP t)] (fun r => r = cP (a + cntE t) (b + cntQ t)) := by
  induction t using Ex.ind with
  | h k li co m by_ n ks ps bs ihk ihb =>
  intro hs hw a b
  unfold smallEx at hs
  unfold wfEx at hw
  obtain ⟨hpb, hwk, hwb⟩ := hw
  have hK := countE (exPs ks) ks.length (exPs_len ks) (by omega) (fun j => cntE (ks.getD j Ex.zero)) (fun j => cntQ (ks.getD j Ex.zero)) (fun j hj => by
    have hx := exPs_get ks j hj
    have hi := ihk j hj (smallExs_get ks (by simp only [hs]) j hj) (wfExs_at ks hwk j hj)
    rw [getD_at ks Ex.zero j hj]
    obtain ⟨k', li', co', m', b', n', ks', ps', bs', hp⟩ := ex_mk ks[j]
    rw [hp] at hx hi ⊢
    refine ⟨_, _, _, _, _, _, _, _, hx, fun a b => ?_⟩
    refine a128 _ _ _ _ _ _ _ _ _ _ _ _ ?_
    unfold p128
    exact ⟨_, _, call_p (enters_of Tryz.func59 (by kernel_rfl) rfl) (hi a b) rfl ⟨rfl, rfl⟩⟩) (a + 1) b
  have hA := countA (arPs bs ps) bs.length (arPs_len bs ps hpb) (by omega) (fun j => cntE (bs.getD j Ex.zero)) (fun j => cntP (ps.getD j Pt.zero) + cntQ (bs.getD j Ex.zero)) (fun j hj => by
    have hjp : j < ps.length := by omega
    have hx := arPs_get bs ps j hj hjp
    have hi := ihb j hj (smallExs_get bs (by simp only [hs]) j hj) (wfExs_at bs hwb j hj)
    have hq := cnt_pt ps[j] (smallPts_get ps (by simp only [hs]) j hjp)
    rw [getD_at bs Ex.zero j hj, getD_at ps Pt.zero j hjp]
    obtain ⟨k', li', co', m', b', n', ks', ps', bs', hp⟩ := ex_mk bs[j]
    obtain ⟨k2, li2, co2, n2, m2, ps2, hp2⟩ := pt_mk ps[j]
    rw [hp] at hx hi ⊢
    rw [hp2] at hx hq ⊢
    refine ⟨_, _, _, _, _, _, _, _, _, _, _, _, _, _, hx, fun a b => ?_⟩
    refine a130 _ _ _ _ _ _ _ _ _ _ _ _ _ _ _ _ _ _ ?_
    unfold p130
    refine ⟨_, _, call_p (enters_of Tryz.func131 (by kernel_rfl) rfl) (hq a b) rfl ?_⟩
    rw [← Int.add_assoc]
    exact ⟨_, _, call_p (enters_of Tryz.func59 (by kernel_rfl) rfl) (hi a (b + cntP (.mk k2 li2 co2 n2 m2 ps2))) rfl ⟨rfl, rfl⟩⟩) (a + 1 + cntEs ks) (b + cntQs ks)
  rw [← cntEs_sum, ← cntQs_sum] at hK
  rw [sumTo_add, ← cntEs_sum, ← cntQs_sum, ← hpb, ← cntPs_sum] at hA
  rw [show a + cntE (.mk k li co m by_ n ks ps bs) = a + 1 + cntEs ks + cntEs bs by rw [cntE]; omega, show b + cntQ (.mk k li co m by_ n ks ps bs) = b + cntQs ks + (cntPs ps + cntQs bs) by rw [cntQ]; omega]
  refine a59 _ _ _ _ _ _ _ _ _ _ _ ?_
  unfold p59
  rw [W_l]
  refine ⟨_, _, call_p (enters_of Tryz.func127 (by kernel_rfl) rfl) hK rfl ?_⟩
  exact ⟨_, _, call_p (enters_of Tryz.func129 (by kernel_rfl) rfl) hA rfl ⟨rfl, rfl⟩⟩
theorem nodes_p (t : Ex) (hs : smallEx t) (hw : wfEx t) : PCalls Tryz.prog 21 [.agg (exP t)] (fun r => r = .tup [.con (.int .i64 (W (cntE t))), .con (.int .i64 (W (cntQ t)))]) := by
  have h := cnt_ex t hs hw 0 0
  rw [Int.zero_add, Int.zero_add] at h
  unfold cP at h
  rw [W_zero] at h
  obtain ⟨k', li', co', m', b', n', ks', ps', bs', hp⟩ := ex_mk t
  subst hp
  refine a21 _ _ _ _ _ _ _ _ _ ?_
  unfold p21
  exact ⟨_, _, call_p (enters_of Tryz.func59 (by kernel_rfl) rfl) h rfl ⟨rfl, rfl⟩⟩
end Go.Proofs.YtcmnjodjebcapaaGreat.Deep
