/-
  Texts of one proof, in the order in which they lean on one another. No condition.
-/
import Derived.Maps.Views
import Derived.Test.YtcmnjodjebcapaaGreatFaPkd
namespace Go.Proofs.YtcmnjodjebcapaaGreat.Deep
open Go.RowKit
set_option linter.unusedVariables false
def loops136 (id : Nat) : Option (List Nat × List (Nat × Sh)) := none
def p136 (i1 i2 i3 i4 : Int) (l5 : List (List PV)) (s6 : ByteArray) (l7 l8 : List (List PV)) (i9 : Int) (Q : PV → Heap → Prop) : Prop :=
br (((i9 : Int) == 1))
  (br (((i1 : Int) == 6))
  (Q (.own 1 9 1 [[s6]]) [[i1, i2, i3, i4, l5, s6, l7, l8], [.tip]])
  (br (((i1 : Int) == 10))
  (Q (.own 1 9 1 [[s6]]) [[i1, i2, i3, i4, l5, s6, l7, l8], [.tip]])
  (Q (.con (.slice none 0 0)) [[i1, i2, i3, i4, l5, s6, l7, l8]])))
  (Q (.con (.slice none 0 0)) [[i1, i2, i3, i4, l5, s6, l7, l8]])
theorem a136 (i1 i2 i3 i4 : Int) (l5 : List (List PV)) (s6 : ByteArray) (l7 l8 : List (List PV)) (i9 : Int) (Q : PV → Heap → Prop) (h : p136 i1 i2 i3 i4 l5 s6 l7 l8 i9 Q) : ACalls Tryz.prog 136 [(.agg [i1, i2, i3, i4, l5, s6, l7, l8]), i9] [] Q := by
  have hb : Option.some (bodyOf Tryz.f136) = Tryz.f136.body := by kernel_rfl
  exact acalls_eq (S := S) (L := loops136) mixed tok Tryz.func136 hb.symm (by kernel_rfl) h
def loops139 (id : Nat) : Option (List Nat × List (Nat × Sh)) := none
def p139 (l1 : List (List PV)) (i2 i3 i4 i5 : Int) (s6 : ByteArray) (i7 : Int) (l8 : List (List PV)) (Q : PV → Heap → Prop) : Prop :=
br (((i3 : Int) == 1))
  (AppN l1 [[s6]] 1 16 PV.one
  (∃ l9 : List (List PV), CallF Tryz.prog 189 [l8, (.own 0 9 1 (l1 ++ ([[s6]] : List (List PV)))), (.fn 139 [])] [[.tip]] (.own 1 9 1 l9) [[], [.tip]]
  (Q (.own 1 9 1 l9) [[], [.tip]])))
  (∃ l10 : List (List PV), CallF Tryz.prog 189 [l8, (.own 0 9 1 l1), (.fn 139 [])] [[.tip]] (.own 1 9 1 l10) [[], [.tip]]
  (Q (.own 1 9 1 l10) [[], [.tip]]))
theorem a139 (l1 : List (List PV)) (i2 i3 i4 i5 : Int) (s6 : ByteArray) (i7 : Int) (l8 : List (List PV)) (Q : PV → Heap → Prop) (h : p139 l1 i2 i3 i4 i5 s6 i7 l8 Q) : ACalls Tryz.prog 139 [(.own 0 9 1 l1), i2, (.agg [i3, i4, i5, s6, i7, l8])] [[.tip]] Q := by
  have hb : Option.some (bodyOf Tryz.f139) = Tryz.f139.body := by kernel_rfl
  exact acalls_canon (res := [.cell (.own 1 9 1)]) (post := [.dead, .tip]) (acalls_eq (S := S) (L := loops139) mixed tok Tryz.func139 hb.symm (by kernel_rfl) h)
def loops189k (id : Nat) : Option (List Nat × List (Nat × Sh)) := match Nat.beq id 2 with | true => some ([2, 9, 10], [(1, .own 0 9 1), (11, .int .i64)]) | false => none
def p189k (l1 l2 : List (List PV)) (Q : PV → Heap → Prop) : Prop :=
∃ I3 : Nat → ((List (List PV)) × (Int) × Unit) → Prop, (∃ n, I3 n (l2, 0, ())) ∧ ∀ (n4 : Nat) (v5 : (List (List PV)) × (Int) × Unit), I3 n4 v5 →
  (br ((decide ((v5.2.1 : Int) < (List.length l1 : Int))))
  (∃ i6 : Int, ∃ i7 : Int, ∃ i8 : Int, ∃ s9 : ByteArray, ∃ i10 : Int, ∃ l11 : List (List PV), IdxN l1 v5.2.1 [i6, i7, i8, s9, i10, l11]
  (∃ l12 : List (List PV), CallF Tryz.prog 139 [(.own 0 9 1 v5.1), v5.2.1, (.agg [i6, i7, i8, s9, i10, l11])] [[.tip]] (.own 1 9 1 l12) [[], [.tip]]
  ((@Eq PV (.fn 139 []) (.fn 139 []) ∧ @Eq PV l1 l1 ∧ @Eq PV (.con (.int .i64 (List.length l1 : Int))) (.con (.int .i64 (List.length l1 : Int))) ∧ True) ∧ @Eq Heap [[]] [[]] ∧ ∃ k13, k13 < n4 ∧ I3 k13 (l12, (IntKind.wrap .i64 (v5.2.1 + 1)), ()))))
  (Q (.own 1 9 1 v5.1) [[], [.tip]]))
theorem a189k (l1 l2 : List (List PV)) (Q : PV → Heap → Prop) (h : p189k l1 l2 Q) : ACalls Tryz.prog 189 [l1, (.own 0 9 1 l2), (.fn 139 [])] [[.tip]] Q := by
  have hb : Option.some (bodyOf Tryz.f189) = Tryz.f189.body := by kernel_rfl
  exact acalls_canon (res := [.cell (.own 1 9 1)]) (post := [.dead, .tip]) (acalls_eq (S := S) (L := loops189k) mixed tok Tryz.func189 hb.symm (by kernel_rfl) h)
def loops188 (id : Nat) : Option (List Nat × List (Nat × Sh)) := none
def p188 (s1 : ByteArray) (l2 : List (List PV)) (n3 : Nat) (D4 : DataW Unit) (n5 : Nat) (D6 : DataW Unit) (Q : PV → Heap → Prop) : Prop :=
∃ c7 : Int, MapN D4 s1 .i64 c7
  (MapU n3 s1 .i64 (IntKind.wrap .i64 (c7 - 1))
  (∃ c8 : Int, MapN (DataW.put D4 (.string (Array.toList (ByteArray.data s1))) (.lit (.int .i64 (IntKind.wrap .i64 (c7 - 1))))) s1 .i64 c8
  (br (((c8 : Int) == 0))
  (MapD s1
  (Q (.tup []) [[(.mp 1), (.mp 2), (.own 3 9 1 l2)], [(.mpc 9 3 (n3 + 1) (DataW.del (DataW.put D4 (.string (Array.toList (ByteArray.data s1))) (.lit (.int .i64 (IntKind.wrap .i64 (c7 - 1))))) (.string (Array.toList (ByteArray.data s1)))))], [(.mpc 9 3 n5 D6)], [.tip]]))
  (Q (.tup []) [[(.mp 1), (.mp 2), (.own 3 9 1 l2)], [(.mpc 9 3 (n3 + 1) (DataW.put D4 (.string (Array.toList (ByteArray.data s1))) (.lit (.int .i64 (IntKind.wrap .i64 (c7 - 1))))))], [(.mpc 9 3 n5 D6)], [.tip]]))))
theorem a188 (s1 : ByteArray) (l2 : List (List PV)) (n3 : Nat) (D4 : DataW Unit) (n5 : Nat) (D6 : DataW Unit) (Q : PV → Heap → Prop) (h : p188 s1 l2 n3 D4 n5 D6 Q) : ACalls Tryz.prog 188 [(.ptr 0 0), s1] [[(.mp 1), (.mp 2), (.own 3 9 1 l2)], [(.mpc 9 3 n3 D4)], [(.mpc 9 3 n5 D6)], [.tip]] Q := by
  have hb : Option.some (bodyOf Tryz.f188) = Tryz.f188.body := by kernel_rfl
  exact acalls_canon (res := []) (post := [.keep, .cells [.mpc 9 3], .keep, .keep]) (acalls_eq (S := S) (L := loops188) mixed tok Tryz.func188 hb.symm (by kernel_rfl) h)
def loops132 (id : Nat) : Option (List Nat × List (Nat × Sh)) := none
def p132 (s1 : ByteArray) (l2 : List (List PV)) (n3 : Nat) (D4 : DataW Unit) (n5 : Nat) (D6 : DataW Unit) (Q : PV → Heap → Prop) : Prop :=
∃ c7 : Int, MapN D4 s1 .i64 c7
  (br ((decide ((c7 : Int) > 0)))
  (Q (.tup []) [[(.mp 1), (.mp 2), (.own 4 9 1 l2)], [(.mpc 9 3 n3 D4)], [(.mpc 9 3 n5 D6)], [], [.tip]])
  (∃ c8 : Int, MapN D6 s1 .i64 c8
  (br ((decide ((c8 : Int) > 0)))
  (Q (.tup []) [[(.mp 1), (.mp 2), (.own 4 9 1 l2)], [(.mpc 9 3 n3 D4)], [(.mpc 9 3 n5 D6)], [], [.tip]])
  (∃ c9 : Int, MapN D6 s1 .i64 c9
  (MapU n5 s1 .i64 (IntKind.wrap .i64 (c9 + 1))
  (AppN l2 [[s1]] 1 16 PV.one
  (Q (.tup []) [[(.mp 1), (.mp 2), (.own 4 9 1 (l2 ++ ([[s1]] : List (List PV))))], [(.mpc 9 3 n3 D4)], [(.mpc 9 3 (n5 + 1) (DataW.put D6 (.string (Array.toList (ByteArray.data s1))) (.lit (.int .i64 (IntKind.wrap .i64 (c9 + 1))))))], [], [.tip]])))))))
theorem a132 (s1 : ByteArray) (l2 : List (List PV)) (n3 : Nat) (D4 : DataW Unit) (n5 : Nat) (D6 : DataW Unit) (Q : PV → Heap → Prop) (h : p132 s1 l2 n3 D4 n5 D6 Q) : ACalls Tryz.prog 132 [(.ptr 0 0), s1] [[(.mp 1), (.mp 2), (.own 3 9 1 l2)], [(.mpc 9 3 n3 D4)], [(.mpc 9 3 n5 D6)], [.tip]] Q := by
  have hb : Option.some (bodyOf Tryz.f132) = Tryz.f132.body := by kernel_rfl
  exact acalls_canon (res := []) (post := [.cells [.mp 1, .mp 2, .own 4 9 1], .cells [.mpc 9 3], .cells [.mpc 9 3], .dead, .tip]) (acalls_eq (S := S) (L := loops132) mixed tok Tryz.func132 hb.symm (by kernel_rfl) h)
def loops135 (id : Nat) : Option (List Nat × List (Nat × Sh)) := match Nat.beq id 8 with | true => some ([0, 28, 29], [(30, .int .i64), (1001000, .mpc 9 3)]) | false => match Nat.beq id 2 with | true => some ([0, 1, 5, 11, 12], [(13, .int .i64), (1001000, .mpc 9 3)]) | false => none
def p135 (l1 : List (List PV)) (i2 i3 i4 i5 : Int) (l6 : List (List PV)) (s7 : ByteArray) (l8 l9 l10 : List (List PV)) (n11 : Nat) (D12 : DataW Unit) (n13 : Nat) (D14 : DataW Unit) (Q : PV → Heap → Prop) : Prop :=
∃ I15 : Nat → ((Int) × ((Nat × DataW Unit)) × Unit) → Prop, (∃ n, I15 n (0, (n11, D12), ())) ∧ ∀ (n16 : Nat) (v17 : (Int) × ((Nat × DataW Unit)) × Unit), I15 n16 v17 →
  (br ((decide ((v17.1 : Int) < (List.length l1 : Int))))
  (∃ s18 : ByteArray, IdxN l1 v17.1 [s18]
  (∃ c19 : Int, MapN v17.2.1.2 s18 .i64 c19
  (MapU v17.2.1.1 s18 .i64 (IntKind.wrap .i64 (c19 + 1))
  ((@Eq PV (.ptr 0 0) (.ptr 0 0) ∧ @Eq PV l1 l1 ∧ @Eq PV (.ptr 4 0) (.ptr 4 0) ∧ @Eq PV l1 l1 ∧ @Eq PV (.con (.int .i64 (List.length l1 : Int))) (.con (.int .i64 (List.length l1 : Int))) ∧ True) ∧ @Eq Heap [[(.mp 1), (.mp 2), (.own 3 9 1 l10)], [(.mpc 9 3 (v17.2.1.1 + 1) (DataW.put v17.2.1.2 (.string (Array.toList (ByteArray.data s18))) (.lit (.int .i64 (IntKind.wrap .i64 (c19 + 1))))))], [(.mpc 9 3 n13 D14)], [.tip], [i2, i3, i4, i5, l6, s7, l8, l9]] [[(.mp 1), (.mp 2), (.own 3 9 1 l10)], [(.mpc 9 3 (v17.2.1.1 + 1) (DataW.put v17.2.1.2 (.string (Array.toList (ByteArray.data s18))) (.lit (.int .i64 (IntKind.wrap .i64 (c19 + 1))))))], [(.mpc 9 3 n13 D14)], [.tip], [i2, i3, i4, i5, l6, s7, l8, l9]] ∧ ∃ k20, k20 < n16 ∧ I15 k20 ((IntKind.wrap .i64 (v17.1 + 1)), ((v17.2.1.1 + 1), (DataW.put v17.2.1.2 (.string (Array.toList (ByteArray.data s18))) (.lit (.int .i64 (IntKind.wrap .i64 (c19 + 1)))))), ())))))
  (∃ l21 : List (List PV), ∃ n22 : Nat, ∃ D23 : DataW Unit, ∃ n24 : Nat, ∃ D25 : DataW Unit, CallF Tryz.prog 61 [(.ptr 0 0), (.agg [i2, i3, i4, i5, l6, s7, l8, l9])] [[(.mp 1), (.mp 2), (.own 3 9 1 l10)], [(.mpc 9 3 v17.2.1.1 v17.2.1.2)], [(.mpc 9 3 n13 D14)], [.tip]] (.ptr 0 0) [[(.mp 1), (.mp 2), (.own 4 9 1 l21)], [(.mpc 9 3 n22 D23)], [(.mpc 9 3 n24 D25)], [], [.tip]]
  (∃ I26 : Nat → ((Int) × ((Nat × DataW Unit)) × Unit) → Prop, (∃ n, I26 n (0, (n22, D23), ())) ∧ ∀ (n27 : Nat) (v28 : (Int) × ((Nat × DataW Unit)) × Unit), I26 n27 v28 →
  (br ((decide ((v28.1 : Int) < (List.length l1 : Int))))
  (∃ s29 : ByteArray, IdxN l1 v28.1 [s29]
  (∃ n30 : Nat, ∃ D31 : DataW Unit, CallF Tryz.prog 188 [(.ptr 0 0), s29] [[(.mp 1), (.mp 2), (.own 3 9 1 l21)], [(.mpc 9 3 v28.2.1.1 v28.2.1.2)], [(.mpc 9 3 n24 D25)], [.tip]] (.tup []) [[(.mp 1), (.mp 2), (.own 3 9 1 l21)], [(.mpc 9 3 n30 D31)], [(.mpc 9 3 n24 D25)], [.tip]]
  ((@Eq PV (.ptr 0 0) (.ptr 0 0) ∧ @Eq PV l1 l1 ∧ @Eq PV (.con (.int .i64 (List.length l1 : Int))) (.con (.int .i64 (List.length l1 : Int))) ∧ True) ∧ @Eq Heap [[(.mp 1), (.mp 2), (.own 9 9 1 l21)], [(.mpc 9 3 n30 D31)], [(.mpc 9 3 n24 D25)], [], [i2, i3, i4, i5, l6, s7, l8, l9], [.tip], [.tip], [.tip], [.tip], [.tip]] [[(.mp 1), (.mp 2), (.own 9 9 1 l21)], [(.mpc 9 3 n30 D31)], [(.mpc 9 3 n24 D25)], [], [i2, i3, i4, i5, l6, s7, l8, l9], [.tip], [.tip], [.tip], [.tip], [.tip]] ∧ ∃ k32, k32 < n27 ∧ I26 k32 ((IntKind.wrap .i64 (v28.1 + 1)), (n30, D31), ()))))
  (Q (.ptr 0 0) [[(.mp 1), (.mp 2), (.own 4 9 1 l21)], [(.mpc 9 3 v28.2.1.1 v28.2.1.2)], [(.mpc 9 3 n24 D25)], [], [.tip]])))))
theorem a135 (l1 : List (List PV)) (i2 i3 i4 i5 : Int) (l6 : List (List PV)) (s7 : ByteArray) (l8 l9 l10 : List (List PV)) (n11 : Nat) (D12 : DataW Unit) (n13 : Nat) (D14 : DataW Unit) (Q : PV → Heap → Prop) (h : p135 l1 i2 i3 i4 i5 l6 s7 l8 l9 l10 n11 D12 n13 D14 Q) : ACalls Tryz.prog 135 [(.ptr 0 0), l1, (.agg [i2, i3, i4, i5, l6, s7, l8, l9])] [[(.mp 1), (.mp 2), (.own 3 9 1 l10)], [(.mpc 9 3 n11 D12)], [(.mpc 9 3 n13 D14)], [.tip]] Q := by
  have hb : Option.some (bodyOf Tryz.f135) = Tryz.f135.body := by kernel_rfl
  exact acalls_canon (res := [.cell (.ptr 0 0)]) (post := [.cells [.mp 1, .mp 2, .own 4 9 1], .cells [.mpc 9 3], .cells [.mpc 9 3], .dead, .tip]) (acalls_eq (S := S) (L := loops135) mixed tok Tryz.func135 hb.symm (by kernel_rfl) h)
def loops134k (id : Nat) : Option (List Nat × List (Nat × Sh)) := none
def p134k (i1 i2 i3 i4 i5 : Int) (l6 : List (List PV)) (s7 : ByteArray) (l8 l9 : List (List PV)) (i10 i11 i12 i13 : Int) (l14 : List (List PV)) (s15 : ByteArray) (l16 l17 l18 : List (List PV)) (n19 : Nat) (D20 : DataW Unit) (n21 : Nat) (D22 : DataW Unit) (Q : PV → Heap → Prop) : Prop :=
∃ l23 : List (List PV), CallN Tryz.prog 136 [(.agg [i10, i11, i12, i13, l14, s15, l16, l17]), i1] [[(.mp 1), (.mp 2), (.own 3 9 1 l18)], [(.mpc 9 3 n19 D20)], [(.mpc 9 3 n21 D22)], [.tip], [i2, i3, i4, i5, l6, s7, l8, l9]] l23
  (∃ l24 : List (List PV), ∃ n25 : Nat, ∃ D26 : DataW Unit, ∃ n27 : Nat, ∃ D28 : DataW Unit, CallF Tryz.prog 135 [(.ptr 0 0), l23, (.agg [i2, i3, i4, i5, l6, s7, l8, l9])] [[(.mp 1), (.mp 2), (.own 3 9 1 l18)], [(.mpc 9 3 n19 D20)], [(.mpc 9 3 n21 D22)], [.tip]] (.ptr 0 0) [[(.mp 1), (.mp 2), (.own 4 9 1 l24)], [(.mpc 9 3 n25 D26)], [(.mpc 9 3 n27 D28)], [], [.tip]]
  (Q (.ptr 0 0) [[(.mp 1), (.mp 2), (.own 4 9 1 l24)], [(.mpc 9 3 n25 D26)], [(.mpc 9 3 n27 D28)], [], [.tip]]))
theorem a134k (i1 i2 i3 i4 i5 : Int) (l6 : List (List PV)) (s7 : ByteArray) (l8 l9 : List (List PV)) (i10 i11 i12 i13 : Int) (l14 : List (List PV)) (s15 : ByteArray) (l16 l17 l18 : List (List PV)) (n19 : Nat) (D20 : DataW Unit) (n21 : Nat) (D22 : DataW Unit) (Q : PV → Heap → Prop) (h : p134k i1 i2 i3 i4 i5 l6 s7 l8 l9 i10 i11 i12 i13 l14 s15 l16 l17 l18 n19 D20 n21 D22 Q) : ACalls Tryz.prog 134 [(.ptr 0 0), i1, (.agg [i2, i3, i4, i5, l6, s7, l8, l9]), (.ept [i10, i11, i12, i13, l14, s15, l16, l17] 0)] [[(.mp 1), (.mp 2), (.own 3 9 1 l18)], [(.mpc 9 3 n19 D20)], [(.mpc 9 3 n21 D22)], [.tip]] Q := by
  have hb : Option.some (bodyOf Tryz.f134) = Tryz.f134.body := by kernel_rfl
  exact acalls_canon (res := [.cell (.ptr 0 0)]) (post := [.cells [.mp 1, .mp 2, .own 4 9 1], .cells [.mpc 9 3], .cells [.mpc 9 3], .dead, .tip]) (acalls_eq (S := S) (L := loops134k) mixed tok Tryz.func134 hb.symm (by kernel_rfl) h)
def loops138 (id : Nat) : Option (List Nat × List (Nat × Sh)) := none
def p138 (i1 i2 i3 i4 : Int) (s5 : ByteArray) (i6 : Int) (l7 : List (List PV)) (i8 i9 i10 i11 : Int) (l12 : List (List PV)) (s13 : ByteArray) (l14 l15 l16 : List (List PV)) (n17 : Nat) (D18 : DataW Unit) (n19 : Nat) (D20 : DataW Unit) (Q : PV → Heap → Prop) : Prop :=
∃ l21 : List (List PV), CallF Tryz.prog 139 [(.own 0 9 1 []), (.con (.int .i64 0)), (.agg [i2, i3, i4, s5, i6, l7])] [[.tip]] (.own 1 9 1 l21) [[], [.tip]]
  (∃ l22 : List (List PV), ∃ n23 : Nat, ∃ D24 : DataW Unit, ∃ n25 : Nat, ∃ D26 : DataW Unit, CallF Tryz.prog 135 [(.ptr 0 0), l21, (.agg [i8, i9, i10, i11, l12, s13, l14, l15])] [[(.mp 1), (.mp 2), (.own 3 9 1 l16)], [(.mpc 9 3 n17 D18)], [(.mpc 9 3 n19 D20)], [.tip]] (.ptr 0 0) [[(.mp 1), (.mp 2), (.own 4 9 1 l22)], [(.mpc 9 3 n23 D24)], [(.mpc 9 3 n25 D26)], [], [.tip]]
  (Q (.ptr 0 0) [[(.mp 1), (.mp 2), (.own 4 9 1 l22)], [(.mpc 9 3 n23 D24)], [(.mpc 9 3 n25 D26)], [], [.tip]]))
theorem a138 (i1 i2 i3 i4 : Int) (s5 : ByteArray) (i6 : Int) (l7 : List (List PV)) (i8 i9 i10 i11 : Int) (l12 : List (List PV)) (s13 : ByteArray) (l14 l15 l16 : List (List PV)) (n17 : Nat) (D18 : DataW Unit) (n19 : Nat) (D20 : DataW Unit) (Q : PV → Heap → Prop) (h : p138 i1 i2 i3 i4 s5 i6 l7 i8 i9 i10 i11 l12 s13 l14 l15 l16 n17 D18 n19 D20 Q) : ACalls Tryz.prog 138 [(.ptr 0 0), i1, (.agg [i2, i3, i4, s5, i6, l7, i8, i9, i10, i11, l12, s13, l14, l15])] [[(.mp 1), (.mp 2), (.own 3 9 1 l16)], [(.mpc 9 3 n17 D18)], [(.mpc 9 3 n19 D20)], [.tip]] Q := by
  have hb : Option.some (bodyOf Tryz.f138) = Tryz.f138.body := by kernel_rfl
  exact acalls_canon (res := [.cell (.ptr 0 0)]) (post := [.cells [.mp 1, .mp 2, .own 4 9 1], .cells [.mpc 9 3], .cells [.mpc 9 3], .dead, .tip]) (acalls_eq (S := S) (L := loops138) mixed tok Tryz.func138 hb.symm (by kernel_rfl) h)
def loops133k (id : Nat) : Option (List Nat × List (Nat × Sh)) := match Nat.beq id 2 with | true => some ([1, 2, 9, 10], [(11, .int .i64), (1000002, .own 0 9 1), (1001000, .mpc 9 3), (1002000, .mpc 9 3)]) | false => none
def p133k (l1 : List (List PV)) (i2 i3 i4 i5 : Int) (l6 : List (List PV)) (s7 : ByteArray) (l8 l9 l10 : List (List PV)) (n11 : Nat) (D12 : DataW Unit) (n13 : Nat) (D14 : DataW Unit) (Q : PV → Heap → Prop) : Prop :=
∃ I15 : Nat → ((Int) × (List (List PV)) × ((Nat × DataW Unit)) × ((Nat × DataW Unit)) × Unit) → Prop, (∃ n, I15 n (0, l10, (n11, D12), (n13, D14), ())) ∧ ∀ (n16 : Nat) (v17 : (Int) × (List (List PV)) × ((Nat × DataW Unit)) × ((Nat × DataW Unit)) × Unit), I15 n16 v17 →
  (br ((decide ((v17.1 : Int) < (List.length l1 : Int))))
  (∃ i18 : Int, ∃ i19 : Int, ∃ i20 : Int, ∃ i21 : Int, ∃ l22 : List (List PV), ∃ s23 : ByteArray, ∃ l24 : List (List PV), ∃ l25 : List (List PV), IdxN l1 v17.1 [i18, i19, i20, i21, l22, s23, l24, l25]
  (∃ l26 : List (List PV), ∃ n27 : Nat, ∃ D28 : DataW Unit, ∃ n29 : Nat, ∃ D30 : DataW Unit, CallF Tryz.prog 134 [(.ptr 0 0), v17.1, (.agg [i18, i19, i20, i21, l22, s23, l24, l25]), (.ept [i2, i3, i4, i5, l6, s7, l8, l9] 0)] [[(.mp 1), (.mp 2), (.own 3 9 1 v17.2.1)], [(.mpc 9 3 v17.2.2.1.1 v17.2.2.1.2)], [(.mpc 9 3 v17.2.2.2.1.1 v17.2.2.2.1.2)], [.tip]] (.ptr 0 0) [[(.mp 1), (.mp 2), (.own 4 9 1 l26)], [(.mpc 9 3 n27 D28)], [(.mpc 9 3 n29 D30)], [], [.tip]]
  ((@Eq PV (.ptr 0 0) (.ptr 0 0) ∧ @Eq PV (.fn 134 [(.ept [i2, i3, i4, i5, l6, s7, l8, l9] 0)]) (.fn 134 [(.ept [i2, i3, i4, i5, l6, s7, l8, l9] 0)]) ∧ @Eq PV l1 l1 ∧ @Eq PV (.con (.int .i64 (List.length l1 : Int))) (.con (.int .i64 (List.length l1 : Int))) ∧ True) ∧ @Eq Heap [[(.mp 1), (.mp 2), (.own 4 9 1 l26)], [(.mpc 9 3 n27 D28)], [(.mpc 9 3 n29 D30)], []] [[(.mp 1), (.mp 2), (.own 4 9 1 l26)], [(.mpc 9 3 n27 D28)], [(.mpc 9 3 n29 D30)], []] ∧ ∃ k31, k31 < n16 ∧ I15 k31 ((IntKind.wrap .i64 (v17.1 + 1)), l26, (n27, D28), (n29, D30), ()))))
  (Q (.ptr 0 0) [[(.mp 1), (.mp 2), (.own 4 9 1 v17.2.1)], [(.mpc 9 3 v17.2.2.1.1 v17.2.2.1.2)], [(.mpc 9 3 v17.2.2.2.1.1 v17.2.2.2.1.2)], [], [.tip]]))
theorem a133k (l1 : List (List PV)) (i2 i3 i4 i5 : Int) (l6 : List (List PV)) (s7 : ByteArray) (l8 l9 l10 : List (List PV)) (n11 : Nat) (D12 : DataW Unit) (n13 : Nat) (D14 : DataW Unit) (Q : PV → Heap → Prop) (h : p133k l1 i2 i3 i4 i5 l6 s7 l8 l9 l10 n11 D12 n13 D14 Q) : ACalls Tryz.prog 133 [l1, (.ptr 0 0), (.fn 134 [(.ept [i2, i3, i4, i5, l6, s7, l8, l9] 0)])] [[(.mp 1), (.mp 2), (.own 3 9 1 l10)], [(.mpc 9 3 n11 D12)], [(.mpc 9 3 n13 D14)], [.tip]] Q := by
  have hb : Option.some (bodyOf Tryz.f133) = Tryz.f133.body := by kernel_rfl
  exact acalls_canon (res := [.cell (.ptr 0 0)]) (post := [.cells [.mp 1, .mp 2, .own 4 9 1], .cells [.mpc 9 3], .cells [.mpc 9 3], .dead, .tip]) (acalls_eq (S := S) (L := loops133k) mixed tok Tryz.func133 hb.symm (by kernel_rfl) h)
def loops137k (id : Nat) : Option (List Nat × List (Nat × Sh)) := match Nat.beq id 2 with | true => some ([1, 2, 9, 10], [(11, .int .i64), (1000002, .own 0 9 1), (1001000, .mpc 9 3), (1002000, .mpc 9 3)]) | false => none
def p137k (l1 l2 : List (List PV)) (n3 : Nat) (D4 : DataW Unit) (n5 : Nat) (D6 : DataW Unit) (Q : PV → Heap → Prop) : Prop :=
∃ I7 : Nat → ((Int) × (List (List PV)) × ((Nat × DataW Unit)) × ((Nat × DataW Unit)) × Unit) → Prop, (∃ n, I7 n (0, l2, (n3, D4), (n5, D6), ())) ∧ ∀ (n8 : Nat) (v9 : (Int) × (List (List PV)) × ((Nat × DataW Unit)) × ((Nat × DataW Unit)) × Unit), I7 n8 v9 →
  (br ((decide ((v9.1 : Int) < (List.length l1 : Int))))
  (∃ i10 : Int, ∃ i11 : Int, ∃ i12 : Int, ∃ s13 : ByteArray, ∃ i14 : Int, ∃ l15 : List (List PV), ∃ i16 : Int, ∃ i17 : Int, ∃ i18 : Int, ∃ i19 : Int, ∃ l20 : List (List PV), ∃ s21 : ByteArray, ∃ l22 : List (List PV), ∃ l23 : List (List PV), IdxN l1 v9.1 [i10, i11, i12, s13, i14, l15, i16, i17, i18, i19, l20, s21, l22, l23]
  (∃ l24 : List (List PV), ∃ n25 : Nat, ∃ D26 : DataW Unit, ∃ n27 : Nat, ∃ D28 : DataW Unit, CallF Tryz.prog 138 [(.ptr 0 0), v9.1, (.agg [i10, i11, i12, s13, i14, l15, i16, i17, i18, i19, l20, s21, l22, l23])] [[(.mp 1), (.mp 2), (.own 3 9 1 v9.2.1)], [(.mpc 9 3 v9.2.2.1.1 v9.2.2.1.2)], [(.mpc 9 3 v9.2.2.2.1.1 v9.2.2.2.1.2)], [.tip]] (.ptr 0 0) [[(.mp 1), (.mp 2), (.own 4 9 1 l24)], [(.mpc 9 3 n25 D26)], [(.mpc 9 3 n27 D28)], [], [.tip]]
  ((@Eq PV (.ptr 0 0) (.ptr 0 0) ∧ @Eq PV (.fn 138 []) (.fn 138 []) ∧ @Eq PV l1 l1 ∧ @Eq PV (.con (.int .i64 (List.length l1 : Int))) (.con (.int .i64 (List.length l1 : Int))) ∧ True) ∧ @Eq Heap [[(.mp 1), (.mp 2), (.own 4 9 1 l24)], [(.mpc 9 3 n25 D26)], [(.mpc 9 3 n27 D28)], []] [[(.mp 1), (.mp 2), (.own 4 9 1 l24)], [(.mpc 9 3 n25 D26)], [(.mpc 9 3 n27 D28)], []] ∧ ∃ k29, k29 < n8 ∧ I7 k29 ((IntKind.wrap .i64 (v9.1 + 1)), l24, (n25, D26), (n27, D28), ()))))
  (Q (.ptr 0 0) [[(.mp 1), (.mp 2), (.own 4 9 1 v9.2.1)], [(.mpc 9 3 v9.2.2.1.1 v9.2.2.1.2)], [(.mpc 9 3 v9.2.2.2.1.1 v9.2.2.2.1.2)], [], [.tip]]))
theorem a137k (l1 l2 : List (List PV)) (n3 : Nat) (D4 : DataW Unit) (n5 : Nat) (D6 : DataW Unit) (Q : PV → Heap → Prop) (h : p137k l1 l2 n3 D4 n5 D6 Q) : ACalls Tryz.prog 137 [l1, (.ptr 0 0), (.fn 138 [])] [[(.mp 1), (.mp 2), (.own 3 9 1 l2)], [(.mpc 9 3 n3 D4)], [(.mpc 9 3 n5 D6)], [.tip]] Q := by
  have hb : Option.some (bodyOf Tryz.f137) = Tryz.f137.body := by kernel_rfl
  exact acalls_canon (res := [.cell (.ptr 0 0)]) (post := [.cells [.mp 1, .mp 2, .own 4 9 1], .cells [.mpc 9 3], .cells [.mpc 9 3], .dead, .tip]) (acalls_eq (S := S) (L := loops137k) mixed tok Tryz.func137 hb.symm (by kernel_rfl) h)
def loops61 (id : Nat) : Option (List Nat × List (Nat × Sh)) := none
def p61 (i1 i2 i3 i4 : Int) (l5 : List (List PV)) (s6 : ByteArray) (l7 l8 l9 : List (List PV)) (n10 : Nat) (D11 : DataW Unit) (n12 : Nat) (D13 : DataW Unit) (Q : PV → Heap → Prop) : Prop :=
br (((i1 : Int) == 2))
  (∃ l14 : List (List PV), ∃ n15 : Nat, ∃ D16 : DataW Unit, ∃ n17 : Nat, ∃ D18 : DataW Unit, CallF Tryz.prog 132 [(.ptr 0 0), s6] [[(.mp 1), (.mp 2), (.own 3 9 1 l9)], [(.mpc 9 3 n10 D11)], [(.mpc 9 3 n12 D13)], [.tip]] (.tup []) [[(.mp 1), (.mp 2), (.own 4 9 1 l14)], [(.mpc 9 3 n15 D16)], [(.mpc 9 3 n17 D18)], [], [.tip]]
  (∃ l19 : List (List PV), ∃ n20 : Nat, ∃ D21 : DataW Unit, ∃ n22 : Nat, ∃ D23 : DataW Unit, CallF Tryz.prog 133 [l7, (.ptr 0 0), (.fn 134 [(.ept [i1, i2, i3, i4, l5, s6, l7, l8] 0)])] [[(.mp 1), (.mp 2), (.own 3 9 1 l14)], [(.mpc 9 3 n15 D16)], [(.mpc 9 3 n17 D18)], [.tip]] (.ptr 0 0) [[(.mp 1), (.mp 2), (.own 4 9 1 l19)], [(.mpc 9 3 n20 D21)], [(.mpc 9 3 n22 D23)], [], [.tip]]
  (∃ l24 : List (List PV), ∃ n25 : Nat, ∃ D26 : DataW Unit, ∃ n27 : Nat, ∃ D28 : DataW Unit, CallF Tryz.prog 137 [l8, (.ptr 0 0), (.fn 138 [])] [[(.mp 1), (.mp 2), (.own 3 9 1 l19)], [(.mpc 9 3 n20 D21)], [(.mpc 9 3 n22 D23)], [.tip]] (.ptr 0 0) [[(.mp 1), (.mp 2), (.own 4 9 1 l24)], [(.mpc 9 3 n25 D26)], [(.mpc 9 3 n27 D28)], [], [.tip]]
  (Q (.ptr 0 0) [[(.mp 1), (.mp 2), (.own 4 9 1 l24)], [(.mpc 9 3 n25 D26)], [(.mpc 9 3 n27 D28)], [], [.tip]]))))
  (∃ l29 : List (List PV), ∃ n30 : Nat, ∃ D31 : DataW Unit, ∃ n32 : Nat, ∃ D33 : DataW Unit, CallF Tryz.prog 133 [l7, (.ptr 0 0), (.fn 134 [(.ept [i1, i2, i3, i4, l5, s6, l7, l8] 0)])] [[(.mp 1), (.mp 2), (.own 3 9 1 l9)], [(.mpc 9 3 n10 D11)], [(.mpc 9 3 n12 D13)], [.tip]] (.ptr 0 0) [[(.mp 1), (.mp 2), (.own 4 9 1 l29)], [(.mpc 9 3 n30 D31)], [(.mpc 9 3 n32 D33)], [], [.tip]]
  (∃ l34 : List (List PV), ∃ n35 : Nat, ∃ D36 : DataW Unit, ∃ n37 : Nat, ∃ D38 : DataW Unit, CallF Tryz.prog 137 [l8, (.ptr 0 0), (.fn 138 [])] [[(.mp 1), (.mp 2), (.own 3 9 1 l29)], [(.mpc 9 3 n30 D31)], [(.mpc 9 3 n32 D33)], [.tip]] (.ptr 0 0) [[(.mp 1), (.mp 2), (.own 4 9 1 l34)], [(.mpc 9 3 n35 D36)], [(.mpc 9 3 n37 D38)], [], [.tip]]
  (Q (.ptr 0 0) [[(.mp 1), (.mp 2), (.own 4 9 1 l34)], [(.mpc 9 3 n35 D36)], [(.mpc 9 3 n37 D38)], [], [.tip]])))
theorem a61 (i1 i2 i3 i4 : Int) (l5 : List (List PV)) (s6 : ByteArray) (l7 l8 l9 : List (List PV)) (n10 : Nat) (D11 : DataW Unit) (n12 : Nat) (D13 : DataW Unit) (Q : PV → Heap → Prop) (h : p61 i1 i2 i3 i4 l5 s6 l7 l8 l9 n10 D11 n12 D13 Q) : ACalls Tryz.prog 61 [(.ptr 0 0), (.agg [i1, i2, i3, i4, l5, s6, l7, l8])] [[(.mp 1), (.mp 2), (.own 3 9 1 l9)], [(.mpc 9 3 n10 D11)], [(.mpc 9 3 n12 D13)], [.tip]] Q := by
  have hb : Option.some (bodyOf Tryz.f61) = Tryz.f61.body := by kernel_rfl
  exact acalls_canon (res := [.cell (.ptr 0 0)]) (post := [.cells [.mp 1, .mp 2, .own 4 9 1], .cells [.mpc 9 3], .cells [.mpc 9 3], .dead, .tip]) (acalls_eq (S := S) (L := loops61) mixed tok Tryz.func61 hb.symm (by kernel_rfl) h)
def loops23 (id : Nat) : Option (List Nat × List (Nat × Sh)) := none
def p23 (i1 i2 i3 i4 : Int) (l5 : List (List PV)) (s6 : ByteArray) (l7 l8 : List (List PV)) (Q : PV → Heap → Prop) : Prop :=
∃ l9 : List (List PV), ∃ n10 : Nat, ∃ D11 : DataW Unit, ∃ n12 : Nat, ∃ D13 : DataW Unit, CallF Tryz.prog 61 [(.ptr 0 0), (.agg [i1, i2, i3, i4, l5, s6, l7, l8])] [[(.mp 1), (.mp 2), (.own 3 9 1 [])], [(.mpc 9 3 0 (.map []))], [(.mpc 9 3 0 (.map []))], [.tip]] (.ptr 0 0) [[(.mp 1), (.mp 2), (.own 4 9 1 l9)], [(.mpc 9 3 n10 D11)], [(.mpc 9 3 n12 D13)], [], [.tip]]
  (Q (.own 8 9 1 l9) [[i1, i2, i3, i4, l5, s6, l7, l8], [(.mpc 9 3 n10 D11)], [(.mpc 9 3 n12 D13)], [(.mp 1), (.mp 2), (.own 8 9 1 l9)], [.tip], [.tip], [.tip], [], [.tip]])
theorem a23 (i1 i2 i3 i4 : Int) (l5 : List (List PV)) (s6 : ByteArray) (l7 l8 : List (List PV)) (Q : PV → Heap → Prop) (h : p23 i1 i2 i3 i4 l5 s6 l7 l8 Q) : ACalls Tryz.prog 23 [(.agg [i1, i2, i3, i4, l5, s6, l7, l8])] [] Q := by
  have hb : Option.some (bodyOf Tryz.f23) = Tryz.f23.body := by kernel_rfl
  exact acalls_eq (S := S) (L := loops23) mixed tok Tryz.func23 hb.symm (by kernel_rfl) h
end Go.Proofs.YtcmnjodjebcapaaGreat.Deep

namespace Go.Proofs.YtcmnjodjebcapaaGreat.Deep
open Go.RowKit
set_option linter.unusedVariables false
set_option linter.unusedSimpArgs false
def nmP (l : List ByteArray) : List (List PV) := l.map fun s => [.con (.string s)]
def key (s : ByteArray) : Lit := .string s.data.toList
def cnt (D : DataW Unit) (s : ByteArray) : Int := match D.atKey (key s) (.lit (.int .i64 0)) with | .lit (.int .i64 c) => c | _ => 0
def GoodD (D : DataW Unit) : Prop := Maps.IsMap D ∧ ∀ s : ByteArray, D.atKey (key s) (.lit (.int .i64 0)) = .lit (.int .i64 (cnt D s))
theorem key_inj {s t : ByteArray} (h : key s = key t) : s = t := by
  unfold key at h
  injection h with h
  cases s; cases t
  congr 1
  exact Array.ext' h
theorem GoodD.empty : GoodD (.map []) := ⟨Maps.isMap_empty, fun s => rfl⟩
theorem GoodD.put {D : DataW Unit} (h : GoodD D) (s : ByteArray) (c : Int) : GoodD (D.put (key s) (.lit (.int .i64 c))) ∧ ∀ t, cnt (D.put (key s) (.lit (.int .i64 c))) t = if t = s then c else cnt D t := by
  have e : ∀ t, (D.put (key s) (.lit (.int .i64 c))).atKey (key t) (.lit (.int .i64 0)) = .lit (.int .i64 (if t = s then c else cnt D t)) := fun t => by
    by_cases ht : t = s
    · subst ht; rw [if_pos rfl]; exact Maps.atKey_put_same h.1 (by unfold key WideAt.IsKeyLit; trivial) _ _
    · rw [if_neg ht, Maps.atKey_put_other (fun he => ht (key_inj he))]; exact h.2 t
  have e2 : ∀ t, cnt (D.put (key s) (.lit (.int .i64 c))) t = if t = s then c else cnt D t := fun t => by
    unfold cnt; rw [e t]; rfl
  exact ⟨⟨h.1.put _ _, fun t => by rw [e, e2]⟩, e2⟩
theorem GoodD.del {D : DataW Unit} (h : GoodD D) (s : ByteArray) : GoodD (D.del (key s)) ∧ ∀ t, cnt (D.del (key s)) t = if t = s then 0 else cnt D t := by
  have e : ∀ t, (D.del (key s)).atKey (key t) (.lit (.int .i64 0)) = .lit (.int .i64 (if t = s then 0 else cnt D t)) := fun t => by
    by_cases ht : t = s
    · subst ht; rw [if_pos rfl]; exact Maps.atKey_del_same _
    · rw [if_neg ht, Maps.atKey_del_other (fun he => ht (key_inj he))]; exact h.2 t
  have e2 : ∀ t, cnt (D.del (key s)) t = if t = s then 0 else cnt D t := fun t => by
    unfold cnt; rw [e t]; rfl
  exact ⟨⟨h.1.del _, fun t => by rw [e, e2]⟩, e2⟩
def wr (c : Int) : Int := IntKind.i64.wrap c
theorem wr_wf (c : Int) : (Lit.int .i64 (wr c)).wf = true := by
  unfold wr
  simp only [IntKind.wrap_i64, Lit.wf]
  simp [IntKind.min, IntKind.max, IntKind.signed, IntKind.bits]
  constructor <;> omega
structure LS where
  l : List ByteArray
  n1 : Nat
  D1 : DataW Unit
  n2 : Nat
  D2 : DataW Unit
def incD (x : Nat × DataW Unit) (s : ByteArray) : Nat × DataW Unit := (x.1 + 1, x.2.put (key s) (.lit (.int .i64 (wr (cnt x.2 s + 1)))))
def dec0 (x : Nat × DataW Unit) (s : ByteArray) : DataW Unit := x.2.put (key s) (.lit (.int .i64 (wr (cnt x.2 s - 1))))
def decD (x : Nat × DataW Unit) (s : ByteArray) : Nat × DataW Unit := (x.1 + 1, if cnt (dec0 x s) s = 0 then (dec0 x s).del (key s) else dec0 x s)
def enterS (ns : List ByteArray) (st : LS) : LS := { st with n1 := (ns.foldl incD (st.n1, st.D1)).1, D1 := (ns.foldl incD (st.n1, st.D1)).2 }
def leaveS (ns : List ByteArray) (st : LS) : LS := { st with n1 := (ns.foldl decD (st.n1, st.D1)).1, D1 := (ns.foldl decD (st.n1, st.D1)).2 }
def meetS (s : ByteArray) (st : LS) : LS := if 0 < cnt st.D1 s then st else if 0 < cnt st.D2 s then st else { st with l := st.l ++ [s], n2 := st.n2 + 1, D2 := st.D2.put (key s) (.lit (.int .i64 (wr (cnt st.D2 s + 1)))) }
mutual
def varsP : Pt → List ByteArray
  | .mk k _ _ n _ ks => (if k = 1 then [n] else []) ++ varsPs ks
def varsPs : List Pt → List ByteArray
  | [] => []
  | t :: ts => varsP t ++ varsPs ts
end
def giv (k : Int) (n : ByteArray) (i : Nat) : List ByteArray := if i = 1 ∧ (k = 6 ∨ k = 10) then [n] else []
mutual
def exS : Ex → LS → LS
  | .mk k _ _ _ _ n ks ps bs, st => arS bs ps (kdS ks k n 0 (if k = 2 then meetS n st else st))
def kdS : List Ex → Int → ByteArray → Nat → LS → LS
  | [], _, _, _, st => st
  | e :: es, k, n, i, st => kdS es k n (i + 1) (leaveS (giv k n i) (exS e (enterS (giv k n i) st)))
def arS : List Ex → List Pt → LS → LS
  | b :: bs, p :: ps, st => arS bs ps (leaveS (varsP p) (exS b (enterS (varsP p) st)))
  | _, _, st => st
end
mutual
def uP : Pt → Nat
  | .mk _ _ _ _ _ ks => 1 + uPs ks
def uPs : List Pt → Nat
  | [] => 0
  | t :: ts => uP t + uPs ts
end
mutual
def uE : Ex → Nat
  | .mk _ _ _ _ _ _ ks ps bs => 1 + (uEs ks + uAr bs ps)
def uEs : List Ex → Nat
  | [] => 0
  | e :: es => 2 + uE e + uEs es
def uAr : List Ex → List Pt → Nat
  | b :: bs, p :: ps => 2 * (varsP p).length + uP p + uE b + uAr bs ps
  | _, _ => 0
end
structure Ok (st : LS) (B : Nat) : Prop where
  g1 : GoodD st.D1
  g2 : GoodD st.D2
  b1 : st.n1 + B ≤ 1099511627776
  b2 : st.n2 + B ≤ 1099511627776
  b3 : st.l.length + B ≤ 1099511627776
theorem Ok.less {st : LS} {B B' : Nat} (h : Ok st B) (hb : B' ≤ B) : Ok st B' := ⟨h.g1, h.g2, by have := h.b1; omega, by have := h.b2; omega, by have := h.b3; omega⟩
theorem Ok.meet {st : LS} {B : Nat} (h : Ok st (1 + B)) (s : ByteArray) : Ok (meetS s st) B := by
  unfold meetS
  split
  · exact h.less (by omega)
  · split
    · exact h.less (by omega)
    · have h1 := h.b1; have h2 := h.b2; have h3 := h.b3
      exact ⟨h.g1, (h.g2.put s _).1, by simp only; omega, by simp only; omega, by simp; omega⟩
theorem incs_ok (ns : List ByteArray) : ∀ (x : Nat × DataW Unit), GoodD x.2 → (ns.foldl incD x).1 = x.1 + ns.length ∧ GoodD (ns.foldl incD x).2 := by
  induction ns with
  | nil => intro x h; exact ⟨rfl, h⟩
  | cons s ns ih =>
    intro x h
    obtain ⟨h1, h2⟩ := ih (incD x s) (h.put s _).1
    refine ⟨?_, h2⟩
    rw [List.foldl_cons, h1]
    simp only [incD, List.length_cons]; omega
theorem decD_good {x : Nat × DataW Unit} (h : GoodD x.2) (s : ByteArray) : GoodD (decD x s).2 := by
  have h0 : GoodD (dec0 x s) := (h.put s _).1
  unfold decD
  dsimp only
  split
  · exact (h0.del s).1
  · exact h0
theorem decs_ok (ns : List ByteArray) : ∀ (x : Nat × DataW Unit), GoodD x.2 → (ns.foldl decD x).1 = x.1 + ns.length ∧ GoodD (ns.foldl decD x).2 := by
  induction ns with
  | nil => intro x h; exact ⟨rfl, h⟩
  | cons s ns ih =>
    intro x h
    obtain ⟨h1, h2⟩ := ih (decD x s) (decD_good h s)
    refine ⟨?_, h2⟩
    rw [List.foldl_cons, h1]
    simp only [decD, List.length_cons]; omega
theorem Ok.enter {st : LS} {B : Nat} {ns : List ByteArray} (h : Ok st (ns.length + B)) : Ok (enterS ns st) B := by
  obtain ⟨e1, e2⟩ := incs_ok ns (st.n1, st.D1) h.g1
  have h1 := h.b1; have h2 := h.b2; have h3 := h.b3
  exact ⟨e2, h.g2, by unfold enterS; simp only [e1]; omega, by unfold enterS; simp only; omega, by unfold enterS; simp only; omega⟩
theorem Ok.leave {st : LS} {B : Nat} {ns : List ByteArray} (h : Ok st (ns.length + B)) : Ok (leaveS ns st) B := by
  obtain ⟨e1, e2⟩ := decs_ok ns (st.n1, st.D1) h.g1
  have h1 := h.b1; have h2 := h.b2; have h3 := h.b3
  exact ⟨e2, h.g2, by unfold leaveS; simp only [e1]; omega, by unfold leaveS; simp only; omega, by unfold leaveS; simp only; omega⟩
theorem giv_len (k : Int) (n : ByteArray) (i : Nat) : (giv k n i).length ≤ 1 := by unfold giv; split <;> simp
mutual
theorem exS_ok : ∀ (e : Ex) (st : LS) (B : Nat), Ok st (uE e + B) → Ok (exS e st) B
  | .mk k _ _ _ _ n ks ps bs, st, B, h => by
    unfold uE at h
    unfold exS
    refine arS_ok bs ps _ B (kdS_ok ks k n 0 _ _ ?_)
    split
    · exact Ok.meet (h.less (by omega)) n
    · exact h.less (by omega)
theorem kdS_ok : ∀ (es : List Ex) (k : Int) (n : ByteArray) (i : Nat) (st : LS) (B : Nat), Ok st (uEs es + B) → Ok (kdS es k n i st) B
  | [], _, _, _, st, B, h => h.less (by omega)
  | e :: es, k, n, i, st, B, h => by
    unfold uEs at h
    unfold kdS
    have hg := giv_len k n i
    exact kdS_ok es k n (i + 1) _ B (Ok.leave (exS_ok e _ _ (Ok.enter (h.less (by omega)))))
theorem arS_ok : ∀ (bs : List Ex) (ps : List Pt) (st : LS) (B : Nat), Ok st (uAr bs ps + B) → Ok (arS bs ps st) B
  | b :: bs, p :: ps, st, B, h => by
    unfold uAr at h
    unfold arS
    exact arS_ok bs ps _ B (Ok.leave (exS_ok b _ _ (Ok.enter (h.less (by omega)))))
  | [], _, st, B, h => by unfold arS; exact h.less (by omega)
  | _ :: _, [], st, B, h => by unfold arS; exact h.less (by omega)
end
def preL (st : LS) : Heap := [[(.mp 1), (.mp 2), (.own 3 9 1 (nmP st.l))], [(.mpc 9 3 st.n1 st.D1)], [(.mpc 9 3 st.n2 st.D2)], [.tip]]
def postL (st : LS) : Heap := [[(.mp 1), (.mp 2), (.own 4 9 1 (nmP st.l))], [(.mpc 9 3 st.n1 st.D1)], [(.mpc 9 3 st.n2 st.D2)], [], [.tip]]
theorem nmP_len (l : List ByteArray) : (nmP l).length = l.length := by simp [nmP]
theorem nmP_get (l : List ByteArray) (i : Nat) (h : i < l.length) : (nmP l)[i]? = some [.con (.string l[i])] := by simp [nmP, List.getElem?_map, List.getElem?_eq_getElem h]
theorem nmP_app (l : List ByteArray) (s : ByteArray) : nmP l ++ [[.con (.string s)]] = nmP (l ++ [s]) := by simp [nmP]
theorem one_name (s : ByteArray) : ∀ y ∈ ([[.con (.string s)]] : List (List PV)), y.length = 1 ∧ ∀ p ∈ y, PV.one p = true := by
  intro y hy
  simp at hy
  subst hy
  exact ⟨rfl, fun p hp => by simp at hp; subst hp; rfl⟩
theorem meet_c (s : ByteArray) (hs : s.size ≤ maxLen) (st : LS) (h : Ok st 1) : ACalls Tryz.prog 132 [.ptr 0 0, .con (.string s)] (preL st) (fun r h' => r = .tup [] ∧ h' = postL (meetS s st)) := by
  refine a132 s (nmP st.l) st.n1 st.D1 st.n2 st.D2 _ ?_
  unfold p132
  refine ⟨cnt st.D1 s, ⟨hs, h.g1.2 s, ?_⟩⟩
  refine br_i (fun h1 => ?_) (fun h1 => ?_)
  · have h1 : 0 < cnt st.D1 s := by simpa using h1
    unfold meetS; rw [if_pos h1]; exact ⟨rfl, rfl⟩
  have h1 : ¬ 0 < cnt st.D1 s := by simpa using h1
  refine ⟨cnt st.D2 s, ⟨hs, h.g2.2 s, ?_⟩⟩
  refine br_i (fun h2 => ?_) (fun h2 => ?_)
  · have h2 : 0 < cnt st.D2 s := by simpa using h2
    unfold meetS; rw [if_neg h1, if_pos h2]; exact ⟨rfl, rfl⟩
  have h2 : ¬ 0 < cnt st.D2 s := by simpa using h2
  have b2 := h.b2; have b3 := h.b3
  refine ⟨cnt st.D2 s, ⟨hs, h.g2.2 s, ⟨by unfold maxLen; omega, hs, wr_wf _, ⟨by rw [nmP_len]; simp only [List.length_cons, List.length_nil]; omega, one_name s, ?_⟩⟩⟩⟩
  unfold meetS; rw [if_neg h1, if_neg h2, nmP_app]; exact ⟨rfl, rfl⟩
theorem leave_c (s : ByteArray) (hs : s.size ≤ maxLen) (st : LS) (h : Ok st 1) : ACalls Tryz.prog 188 [.ptr 0 0, .con (.string s)] (preL st) (fun r h' => r = .tup [] ∧ h' = preL (leaveS [s] st)) := by
  refine a188 s (nmP st.l) st.n1 st.D1 st.n2 st.D2 _ ?_
  unfold p188
  have b1 := h.b1
  have hg : GoodD (dec0 (st.n1, st.D1) s) := (h.g1.put s _).1
  refine ⟨cnt st.D1 s, ⟨hs, h.g1.2 s, ⟨by unfold maxLen; omega, hs, wr_wf _, ?_⟩⟩⟩
  refine ⟨cnt (dec0 (st.n1, st.D1) s) s, ⟨hs, hg.2 s, ?_⟩⟩
  refine br_i (fun h1 => ?_) (fun h1 => ?_)
  · have h1 : cnt (dec0 (st.n1, st.D1) s) s = 0 := by simpa using h1
    refine ⟨hs, ?_⟩
    unfold leaveS
    simp only [List.foldl_cons, List.foldl_nil, decD, if_pos h1]
    exact ⟨by trivial, rfl⟩
  · have h1 : ¬ cnt (dec0 (st.n1, st.D1) s) s = 0 := by simpa using h1
    unfold leaveS
    simp only [List.foldl_cons, List.foldl_nil, decD, if_neg h1]
    exact ⟨by trivial, rfl⟩
theorem take_fold {α β : Type} (f : α → β → α) (x : α) (l : List β) (j : Nat) (h : j < l.length) : (l.take (j + 1)).foldl f x = f ((l.take j).foldl f x) l[j] := by
  rw [List.take_succ_eq_append_getElem h, List.foldl_append]; rfl
def CE (e : Ex) : Prop := ∀ st, Ok st (uE e) → ACalls Tryz.prog 61 [.ptr 0 0, .agg (exP e)] (preL st) (fun r h' => r = .ptr 0 0 ∧ h' = postL (exS e st))
theorem within_c (ns : List ByteArray) (e : Ex) (hns : ∀ s ∈ ns, s.size ≤ maxLen) (hl : ns.length ≤ 1099511627776) (hE : CE e) (st : LS) (h : Ok st (2 * ns.length + uE e)) :
    ACalls Tryz.prog 135 [.ptr 0 0, .sl (nmP ns), .agg (exP e)] (preL st) (fun r h' => r = .ptr 0 0 ∧ h' = postL (leaveS ns (exS e (enterS ns st)))) := by
  obtain ⟨k, li, co, m, b, n, ks, ps, bs⟩ := e
  refine a135 (nmP ns) k li co m (byP b) n (exPs ks) (arPs bs ps) (nmP st.l) st.n1 st.D1 st.n2 st.D2 _ ?_
  unfold p135
  rw [nmP_len]
  refine ⟨fun c v => ∃ j : Nat, j ≤ ns.length ∧ c = ns.length - j ∧ v.1 = (j : Int) ∧ v.2.1 = (ns.take j).foldl incD (st.n1, st.D1), ⟨_, 0, Nat.zero_le _, rfl, rfl, by simp⟩, ?_⟩
  rintro c ⟨i, x, u⟩ ⟨j, hj, rfl, hi, hx⟩
  dsimp only at hi hx ⊢
  subst hi hx
  obtain ⟨i1, i2⟩ := incs_ok (ns.take j) (st.n1, st.D1) h.g1
  have b1 := h.b1
  refine br_i (fun hlt => ?_) (fun hge => ?_)
  · have hlt : j < ns.length := by simpa using hlt
    have hsz := hns _ (List.getElem_mem hlt)
    refine ⟨_, ⟨by omega, by rw [Int.toNat_natCast]; exact nmP_get ns j hlt, ?_⟩⟩
    refine ⟨_, ⟨hsz, i2.2 _, ⟨by rw [i1]; unfold maxLen; simp only [List.length_take]; omega, hsz, wr_wf _, ?_⟩⟩⟩
    refine ⟨⟨by trivial, by trivial, by trivial, by trivial, by trivial, trivial⟩, by trivial, ns.length - (j + 1), by omega, j + 1, by omega, rfl, ?_, ?_⟩
    · rw [wrap_id (by omega) (by omega)]; simp
    · rw [take_fold _ _ _ _ hlt]; rfl
  · have hge : ¬ j < ns.length := by simpa using hge
    obtain rfl : j = ns.length := by omega
    rw [List.take_length]
    have hok : Ok (enterS ns st) (uE (.mk k li co m b n ks ps bs) + ns.length) := Ok.enter (h.less (by omega))
    have hE2 := hE (enterS ns st) (hok.less (by omega))
    have hok2 : Ok (exS (.mk k li co m b n ks ps bs) (enterS ns st)) ns.length := exS_ok _ _ _ hok
    obtain ⟨s2, hs2⟩ : ∃ s2, s2 = exS (.mk k li co m b n ks ps bs) (enterS ns st) := ⟨_, rfl⟩
    rw [← hs2] at hE2 hok2 ⊢
    refine ⟨nmP s2.l, s2.n1, s2.D1, s2.n2, s2.D2, ⟨enters_of Tryz.func61 (by kernel_rfl) rfl, hE2, ?_⟩⟩
    refine ⟨fun c v => ∃ j : Nat, j ≤ ns.length ∧ c = ns.length - j ∧ v.1 = (j : Int) ∧ v.2.1 = (ns.take j).foldl decD (s2.n1, s2.D1), ⟨_, 0, Nat.zero_le _, rfl, rfl, by simp⟩, ?_⟩
    rintro c ⟨i, x, u⟩ ⟨j, hj, rfl, hi, hx⟩
    dsimp only at hi hx ⊢
    subst hi hx
    obtain ⟨k1, k2⟩ := decs_ok (ns.take j) (s2.n1, s2.D1) hok2.g1
    have c1 := hok2.b1
    refine br_i (fun hlt => ?_) (fun hge => ?_)
    · have hlt : j < ns.length := by simpa using hlt
      have hsz := hns _ (List.getElem_mem hlt)
      refine ⟨_, ⟨by omega, by rw [Int.toNat_natCast]; exact nmP_get ns j hlt, ?_⟩⟩
      have hlv := leave_c ns[j] hsz { s2 with n1 := ((ns.take j).foldl decD (s2.n1, s2.D1)).1, D1 := ((ns.take j).foldl decD (s2.n1, s2.D1)).2 } ⟨k2, hok2.g2, by simp only [k1, List.length_take]; omega, by have := hok2.b2; simp only; omega, by have := hok2.b3; simp only; omega⟩
      refine ⟨_, _, ⟨enters_of Tryz.func188 (by kernel_rfl) rfl, hlv, ?_⟩⟩
      refine ⟨⟨by trivial, by trivial, by trivial, trivial⟩, by trivial, ns.length - (j + 1), by omega, j + 1, by omega, rfl, ?_, ?_⟩
      · rw [wrap_id (by omega) (by omega)]; simp
      · rw [take_fold _ _ _ _ hlt]; rfl
    · have hge : ¬ j < ns.length := by simpa using hge
      obtain rfl : j = ns.length := by omega
      rw [List.take_length]
      exact ⟨rfl, rfl⟩
end Go.Proofs.YtcmnjodjebcapaaGreat.Deep

namespace Go.Proofs.YtcmnjodjebcapaaGreat.Deep
open Go.RowKit
set_option linter.unusedVariables false
set_option linter.unusedSimpArgs false
mutual
theorem varsP_len : ∀ t : Pt, (varsP t).length ≤ uP t
  | .mk k _ _ n _ ks => by
    have := varsPs_len ks
    unfold varsP uP
    rw [List.length_append]
    split <;> simp <;> omega
theorem varsPs_len : ∀ ts : List Pt, (varsPs ts).length ≤ uPs ts
  | [] => by simp [varsPs, uPs]
  | t :: ts => by
    have h1 := varsP_len t
    have h2 := varsPs_len ts
    unfold varsPs uPs
    rw [List.length_append]; omega
end
mutual
theorem varsP_small : ∀ t : Pt, smallPt t → ∀ s ∈ varsP t, s.size ≤ 3000
  | .mk k _ _ n _ ks, h, s, hs => by
    unfold smallPt at h
    unfold varsP at hs
    rcases List.mem_append.1 hs with q | q
    · split at q
      · simp at q; subst q; exact h.1
      · simp at q
    · exact varsPs_small ks h.2.2 s q
theorem varsPs_small : ∀ ts : List Pt, smallPts ts → ∀ s ∈ varsPs ts, s.size ≤ 3000
  | [], _, s, hs => by simp [varsPs] at hs
  | t :: ts, h, s, hs => by
    unfold smallPts at h
    unfold varsPs at hs
    rcases List.mem_append.1 hs with q | q
    · exact varsP_small t h.1 s q
    · exact varsPs_small ts h.2 s q
end
theorem varsPs_take (ts : List Pt) (j : Nat) (h : j < ts.length) : varsPs (ts.take (j + 1)) = varsPs (ts.take j) ++ varsP ts[j] := by
  have app : ∀ (a b : List Pt), varsPs (a ++ b) = varsPs a ++ varsPs b := by
    intro a
    induction a with
    | nil => intro b; rfl
    | cons x a ih => intro b; simp [varsPs, ih b]
  rw [List.take_succ_eq_append_getElem h, app]
  simp [varsPs]
theorem uPs_take (ts : List Pt) (j : Nat) (h : j < ts.length) : uPs (ts.take j) + uP ts[j] ≤ uPs ts := by
  have app : ∀ (a b : List Pt), uPs (a ++ b) = uPs a + uPs b := by
    intro a
    induction a with
    | nil => intro b; simp [uPs]
    | cons x a ih => intro b; simp [uPs, ih b]; omega
  have e : ts = ts.take j ++ (ts[j] :: ts.drop (j + 1)) := by
    rw [← List.drop_eq_getElem_cons h, List.take_append_drop]
  have e2 := congrArg uPs e
  rw [app, uPs] at e2
  omega
theorem given_c (t : Pt) : smallPt t → ∀ (l : List ByteArray) (i : Int), l.length + uP t ≤ 1099511627776 → ACalls Tryz.prog 139 [.own 0 9 1 (nmP l), .con (.int .i64 i), .agg (ptP t)] [[.tip]] (fun r h => r = .own 1 9 1 (nmP (l ++ varsP t)) ∧ h = [[], [.tip]]) := by
  induction t using Pt.ind with
  | h k li co n m ks ih =>
  intro hs l i hl
  unfold smallPt at hs
  unfold uP at hl
  have fold : ∀ l0 : List ByteArray, l0.length + uPs ks ≤ 1099511627776 → ACalls Tryz.prog 189 [.sl (ptPs ks), .own 0 9 1 (nmP l0), .fn 139 []] [[.tip]] (fun r h => r = .own 1 9 1 (nmP (l0 ++ varsPs ks)) ∧ h = [[], [.tip]]) := fun l0 hl0 => by
    refine a189k (ptPs ks) (nmP l0) _ ?_
    unfold p189k
    rw [ptPs_len]
    refine ⟨fun c v => ∃ j : Nat, j ≤ ks.length ∧ c = ks.length - j ∧ v.1 = nmP (l0 ++ varsPs (ks.take j)) ∧ v.2.1 = (j : Int), ⟨_, 0, Nat.zero_le _, rfl, by simp [varsPs], rfl⟩, ?_⟩
    rintro c ⟨x, i, u⟩ ⟨j, hj, rfl, hx, hi⟩
    dsimp only at hi hx ⊢
    subst hi hx
    have hsz := hs.2.1
    refine br_i (fun hlt => ?_) (fun hge => ?_)
    · have hlt : j < ks.length := by simpa using hlt
      have hks := smallPts_get ks hs.2.2 j hlt
      have hu := uPs_take ks j hlt
      have hv := varsPs_len (ks.take j)
      have hc := ih j hlt hks (l0 ++ varsPs (ks.take j)) (j : Int) (by rw [List.length_append]; omega)
      have hx := ptPs_get ks j hlt
      rw [List.append_assoc, ← varsPs_take ks j hlt] at hc
      generalize ks[j] = q at hc hx
      obtain ⟨k', li', co', n', m', ks'⟩ := q
      refine ⟨_, _, _, _, _, _, ⟨by omega, by rw [Int.toNat_natCast]; exact hx, ?_⟩⟩
      refine ⟨_, ⟨enters_of Tryz.func139 (by kernel_rfl) rfl, hc, ?_⟩⟩
      refine ⟨⟨by trivial, by trivial, by trivial, trivial⟩, by trivial, ks.length - (j + 1), by omega, j + 1, by omega, rfl, rfl, ?_⟩
      rw [wrap_id (by omega) (by omega)]; simp
    · have hge : ¬ j < ks.length := by simpa using hge
      obtain rfl : j = ks.length := by omega
      rw [List.take_length]
      exact ⟨rfl, rfl⟩
  refine a139 (nmP l) i k li co n m (ptPs ks) _ ?_
  unfold p139
  refine br_i (fun hk => ?_) (fun hk => ?_)
  · have hk : k = 1 := by simpa using hk
    refine ⟨by rw [nmP_len]; simp only [List.length_cons, List.length_nil]; omega, one_name n, ?_⟩
    have hf := fold (l ++ [n]) (by simp; omega)
    rw [← nmP_app] at hf
    refine ⟨_, ⟨enters_of Tryz.func189 (by kernel_rfl) rfl, hf, ?_⟩⟩
    unfold varsP
    rw [if_pos hk, List.append_assoc]; exact ⟨rfl, rfl⟩
  · have hk : ¬ k = 1 := by simpa using hk
    refine ⟨_, ⟨enters_of Tryz.func189 (by kernel_rfl) rfl, fold l (by omega), ?_⟩⟩
    unfold varsP
    rw [if_neg hk, List.nil_append]; exact ⟨rfl, rfl⟩
theorem giv_p (k li co m : Int) (b : List (List PV)) (n : ByteArray) (ks ar : List (List PV)) (i : Nat) : PCalls Tryz.prog 136 [.agg [.con (.int .i64 k), .con (.int .i64 li), .con (.int .i64 co), .con (.int .i64 m), .sl b, .con (.string n), .sl ks, .sl ar], .con (.int .i64 i)] (fun r => r = .sl (nmP (giv k n i))) := by
  refine pcalls_weak (a136 k li co m b n ks ar i _ ?_)
  unfold p136 giv
  refine br_i (fun h1 => ?_) (fun h1 => ?_)
  · have h1 : i = 1 := by have : (i : Int) = 1 := by simpa using h1
                          omega
    refine br_i (fun h2 => ?_) (fun h2 => ?_)
    · have h2 : k = 6 := by simpa using h2
      rw [if_pos ⟨h1, .inl h2⟩]; exact ⟨rfl, rfl⟩
    have h2 : ¬ k = 6 := by simpa using h2
    refine br_i (fun h3 => ?_) (fun h3 => ?_)
    · have h3 : k = 10 := by simpa using h3
      rw [if_pos ⟨h1, .inr h3⟩]; exact ⟨rfl, rfl⟩
    · have h3 : ¬ k = 10 := by simpa using h3
      rw [if_neg (fun h => h.2.elim h2 h3)]; exact ⟨rfl, rfl⟩
  · have h1 : ¬ i = 1 := by have : ¬ (i : Int) = 1 := by simpa using h1
                            omega
    rw [if_neg (fun h => h1 h.1)]; exact ⟨rfl, rfl⟩
theorem kdS_snoc (k : Int) (n : ByteArray) : ∀ (es : List Ex) (i : Nat) (st : LS) (j : Nat) (h : j < es.length), kdS (es.take (j + 1)) k n i st = leaveS (giv k n (i + j)) (exS es[j] (enterS (giv k n (i + j)) (kdS (es.take j) k n i st)))
  | e :: es, i, st, 0, h => by simp [kdS]
  | e :: es, i, st, j + 1, h => by
    have := kdS_snoc k n es (i + 1) (leaveS (giv k n i) (exS e (enterS (giv k n i) st))) j (by simpa using h)
    rw [show i + 1 + j = i + (j + 1) by omega] at this
    simpa [kdS] using this
theorem arS_snoc : ∀ (bs : List Ex) (ps : List Pt) (st : LS) (j : Nat) (h : j < bs.length) (h2 : j < ps.length), arS (bs.take (j + 1)) (ps.take (j + 1)) st = leaveS (varsP ps[j]) (exS bs[j] (enterS (varsP ps[j]) (arS (bs.take j) (ps.take j) st)))
  | b :: bs, p :: ps, st, 0, _, _ => by simp [arS]
  | b :: bs, p :: ps, st, j + 1, h, h2 => by
    have := arS_snoc bs ps (leaveS (varsP p) (exS b (enterS (varsP p) st))) j (by simpa using h) (by simpa using h2)
    simpa [arS] using this
theorem uEs_app : ∀ a b : List Ex, uEs (a ++ b) = uEs a + uEs b
  | [], b => by simp [uEs]
  | x :: a, b => by simp [uEs, uEs_app a b]; omega
theorem uEs_take (es : List Ex) (j : Nat) (h : j < es.length) : uEs (es.take j) + (2 + uE es[j]) ≤ uEs es := by
  have e : es = es.take j ++ (es[j] :: es.drop (j + 1)) := by rw [← List.drop_eq_getElem_cons h, List.take_append_drop]
  have e2 := congrArg uEs e
  rw [uEs_app, uEs] at e2
  omega
theorem uAr_take : ∀ (bs : List Ex) (ps : List Pt) (j : Nat) (h : j < bs.length) (h2 : j < ps.length), uAr (bs.take j) (ps.take j) + (2 * (varsP ps[j]).length + uP ps[j] + uE bs[j]) ≤ uAr bs ps
  | b :: bs, p :: ps, 0, _, _ => by simp [uAr]
  | b :: bs, p :: ps, j + 1, h, h2 => by
    have := uAr_take bs ps j (by simpa using h) (by simpa using h2)
    simp only [List.take_succ_cons, uAr, List.getElem_cons_succ]
    omega
theorem ex_c (e : Ex) : smallEx e → wfEx e → uE e ≤ 1000000 → CE e := by
  induction e using Ex.ind with
  | h k li co m b n ks ps bs ihk ihb =>
  intro hs hw hub st hok
  unfold smallEx at hs
  unfold wfEx at hw
  obtain ⟨hsb, hsn, hsk, hsp, hsbs, hsks, hsps, hsbb⟩ := hs
  obtain ⟨hpl, hwk, hwb⟩ := hw
  unfold uE at hub hok
  have hml : ∀ s : ByteArray, s.size ≤ 3000 → s.size ≤ maxLen := fun s h => by unfold maxLen; omega
  -- the parts
  have kids : ∀ st0 : LS, Ok st0 (uEs ks + uAr bs ps) → ACalls Tryz.prog 133 [.sl (exPs ks), .ptr 0 0, .fn 134 [.ept (exP (.mk k li co m b n ks ps bs)) 0]] (preL st0) (fun r h => r = .ptr 0 0 ∧ h = postL (kdS ks k n 0 st0)) := fun st0 h0 => by
    refine a133k (exPs ks) k li co m (byP b) n (exPs ks) (arPs bs ps) (nmP st0.l) st0.n1 st0.D1 st0.n2 st0.D2 _ ?_
    unfold p133k
    rw [exPs_len]
    refine ⟨fun c v => ∃ j : Nat, j ≤ ks.length ∧ c = ks.length - j ∧ v.1 = (j : Int) ∧ v.2.1 = nmP (kdS (ks.take j) k n 0 st0).l ∧ v.2.2.1 = ((kdS (ks.take j) k n 0 st0).n1, (kdS (ks.take j) k n 0 st0).D1) ∧ v.2.2.2.1 = ((kdS (ks.take j) k n 0 st0).n2, (kdS (ks.take j) k n 0 st0).D2), ⟨_, 0, Nat.zero_le _, rfl, rfl, by simp [kdS], by simp [kdS], by simp [kdS]⟩, ?_⟩
    rintro c ⟨i, x, y, z, u⟩ ⟨j, hj, rfl, hi, hx, hy, hz⟩
    dsimp only at hi hx hy hz ⊢
    subst hi hx hy hz
    refine br_i (fun hlt => ?_) (fun hge => ?_)
    · have hlt : j < ks.length := by simpa using hlt
      have hxx := exPs_get ks j hlt
      have hu := uEs_take ks j hlt
      have hue : uE ks[j] ≤ 1000000 := by omega
      have hgl := giv_len k n j
      have hokj : Ok (kdS (ks.take j) k n 0 st0) (2 * (giv k n j).length + uE ks[j]) := kdS_ok _ _ _ _ _ _ (h0.less (by omega))
      have hin := within_c (giv k n j) ks[j] (fun s hs => by unfold giv at hs; split at hs <;> simp at hs; subst hs; exact hml _ hsn) (by omega) (ihk j hlt (smallExs_get ks hsks j hlt) (wfExs_at ks hwk j hlt) hue) (kdS (ks.take j) k n 0 st0) hokj
      have hsn2 := kdS_snoc k n ks 0 st0 j hlt
      rw [Nat.zero_add] at hsn2
      rw [← hsn2] at hin
      obtain ⟨st1, hst1⟩ : ∃ st1, st1 = kdS (ks.take j) k n 0 st0 := ⟨_, rfl⟩
      rw [← hst1] at hin
      generalize ks[j] = q at hin hxx
      obtain ⟨k', li', co', m', b', n', ks', ps', bs'⟩ := q
      have h134 : ACalls Tryz.prog 134 [.ptr 0 0, .con (.int .i64 (j : Int)), .agg (exP (.mk k' li' co' m' b' n' ks' ps' bs')), .ept (exP (.mk k li co m b n ks ps bs)) 0] (preL st1) (fun r h => r = .ptr 0 0 ∧ h = postL (kdS (ks.take (j + 1)) k n 0 st0)) := by
        refine a134k (j : Int) k' li' co' m' (byP b') n' (exPs ks') (arPs bs' ps') k li co m (byP b) n (exPs ks) (arPs bs ps) (nmP st1.l) st1.n1 st1.D1 st1.n2 st1.D2 _ ?_
        unfold p134k
        refine ⟨_, call_p (enters_of Tryz.func136 (by kernel_rfl) rfl) (giv_p k li co m (byP b) n (exPs ks) (arPs bs ps) j) rfl ?_⟩
        exact ⟨_, _, _, _, _, ⟨enters_of Tryz.func135 (by kernel_rfl) rfl, hin, rfl, rfl⟩⟩
      rw [← hst1]
      refine ⟨_, _, _, _, _, _, _, _, ⟨by omega, by rw [Int.toNat_natCast]; exact hxx, ?_⟩⟩
      refine ⟨_, _, _, _, _, ⟨enters_of Tryz.func134 (by kernel_rfl) rfl, h134, ?_⟩⟩
      refine ⟨⟨by trivial, by trivial, by trivial, by trivial, trivial⟩, by trivial, ks.length - (j + 1), by omega, j + 1, by omega, rfl, ?_, rfl, rfl, rfl⟩
      rw [wrap_id (by omega) (by omega)]; simp
    · have hge : ¬ j < ks.length := by simpa using hge
      obtain rfl : j = ks.length := by omega
      rw [List.take_length]
      exact ⟨rfl, rfl⟩
  -- the arms
  have arms : ∀ st0 : LS, Ok st0 (uAr bs ps) → ACalls Tryz.prog 137 [.sl (arPs bs ps), .ptr 0 0, .fn 138 []] (preL st0) (fun r h => r = .ptr 0 0 ∧ h = postL (arS bs ps st0)) := fun st0 h0 => by
    refine a137k (arPs bs ps) (nmP st0.l) st0.n1 st0.D1 st0.n2 st0.D2 _ ?_
    unfold p137k
    rw [arPs_len bs ps hpl]
    refine ⟨fun c v => ∃ j : Nat, j ≤ bs.length ∧ c = bs.length - j ∧ v.1 = (j : Int) ∧ v.2.1 = nmP (arS (bs.take j) (ps.take j) st0).l ∧ v.2.2.1 = ((arS (bs.take j) (ps.take j) st0).n1, (arS (bs.take j) (ps.take j) st0).D1) ∧ v.2.2.2.1 = ((arS (bs.take j) (ps.take j) st0).n2, (arS (bs.take j) (ps.take j) st0).D2), ⟨_, 0, Nat.zero_le _, rfl, rfl, by simp [arS], by simp [arS], by simp [arS]⟩, ?_⟩
    rintro c ⟨i, x, y, z, u⟩ ⟨j, hj, rfl, hi, hx, hy, hz⟩
    dsimp only at hi hx hy hz ⊢
    subst hi hx hy hz
    refine br_i (fun hlt => ?_) (fun hge => ?_)
    · have hlt : j < bs.length := by simpa using hlt
      have hltp : j < ps.length := by omega
      have hxx := arPs_get bs ps j hlt hltp
      have hu := uAr_take bs ps j hlt hltp
      have hue : uE bs[j] ≤ 1000000 := by omega
      have hsp1 := smallPts_get ps hsps j hltp
      have hokj : Ok (arS (bs.take j) (ps.take j) st0) (2 * (varsP ps[j]).length + uE bs[j]) := arS_ok _ _ _ _ (h0.less (by omega))
      have hin := within_c (varsP ps[j]) bs[j] (fun s hs => hml _ (varsP_small _ hsp1 s hs)) (by omega) (ihb j hlt (smallExs_get bs hsbb j hlt) (wfExs_at bs hwb j hlt) hue) (arS (bs.take j) (ps.take j) st0) hokj
      rw [← arS_snoc bs ps st0 j hlt hltp] at hin
      obtain ⟨st1, hst1⟩ : ∃ st1, st1 = arS (bs.take j) (ps.take j) st0 := ⟨_, rfl⟩
      rw [← hst1] at hin
      have hgp := given_c ps[j] hsp1 [] 0 (by simp; omega)
      rw [List.nil_append] at hgp
      generalize bs[j] = q at hin hxx
      generalize ps[j] = q2 at hin hxx hgp
      obtain ⟨k', li', co', m', b', n', ks', ps', bs'⟩ := q
      obtain ⟨pk, pl, pc, pn, pm, pks⟩ := q2
      have h138 : ACalls Tryz.prog 138 [.ptr 0 0, .con (.int .i64 (j : Int)), .agg (ptP (.mk pk pl pc pn pm pks) ++ exP (.mk k' li' co' m' b' n' ks' ps' bs'))] (preL st1) (fun r h => r = .ptr 0 0 ∧ h = postL (arS (bs.take (j + 1)) (ps.take (j + 1)) st0)) := by
        refine a138 (j : Int) pk pl pc pn pm (ptPs pks) k' li' co' m' (byP b') n' (exPs ks') (arPs bs' ps') (nmP st1.l) st1.n1 st1.D1 st1.n2 st1.D2 _ ?_
        unfold p138
        refine ⟨_, ⟨enters_of Tryz.func139 (by kernel_rfl) rfl, hgp, ?_⟩⟩
        exact ⟨_, _, _, _, _, ⟨enters_of Tryz.func135 (by kernel_rfl) rfl, hin, rfl, rfl⟩⟩
      rw [← hst1]
      refine ⟨_, _, _, _, _, _, _, _, _, _, _, _, _, _, ⟨by omega, by rw [Int.toNat_natCast]; exact hxx, ?_⟩⟩
      refine ⟨_, _, _, _, _, ⟨enters_of Tryz.func138 (by kernel_rfl) rfl, h138, ?_⟩⟩
      refine ⟨⟨by trivial, by trivial, by trivial, by trivial, trivial⟩, by trivial, bs.length - (j + 1), by omega, j + 1, by omega, rfl, ?_, rfl, rfl, rfl⟩
      rw [wrap_id (by omega) (by omega)]; simp
    · have hge : ¬ j < bs.length := by simpa using hge
      obtain rfl : j = bs.length := by omega
      rw [List.take_length, ← hpl, List.take_length]
      exact ⟨rfl, rfl⟩
  refine a61 k li co m (byP b) n (exPs ks) (arPs bs ps) (nmP st.l) st.n1 st.D1 st.n2 st.D2 _ ?_
  unfold p61 exS
  refine br_i (fun hk => ?_) (fun hk => ?_)
  · have hk : k = 2 := by simpa using hk
    rw [if_pos hk]
    have hm := Ok.meet (B := uEs ks + uAr bs ps) (hok.less (by omega)) n
    refine ⟨_, _, _, _, _, ⟨enters_of Tryz.func132 (by kernel_rfl) rfl, meet_c n (hml n hsn) st (hok.less (by omega)), ?_⟩⟩
    refine ⟨_, _, _, _, _, ⟨enters_of Tryz.func133 (by kernel_rfl) rfl, kids _ hm, ?_⟩⟩
    refine ⟨_, _, _, _, _, ⟨enters_of Tryz.func137 (by kernel_rfl) rfl, arms _ (kdS_ok ks k n 0 _ _ (hm.less (by omega))), ?_⟩⟩
    exact ⟨rfl, rfl⟩
  · have hk : ¬ k = 2 := by simpa using hk
    rw [if_neg hk]
    have hm : Ok st (uEs ks + uAr bs ps) := hok.less (by omega)
    refine ⟨_, _, _, _, _, ⟨enters_of Tryz.func133 (by kernel_rfl) rfl, kids _ hm, ?_⟩⟩
    refine ⟨_, _, _, _, _, ⟨enters_of Tryz.func137 (by kernel_rfl) rfl, arms _ (kdS_ok ks k n 0 _ _ (hm.less (by omega))), ?_⟩⟩
    exact ⟨rfl, rfl⟩
def initS : LS := ⟨[], 0, .map [], 0, .map []⟩
theorem initS_ok (B : Nat) (h : B ≤ 1099511627776) : Ok initS B := ⟨GoodD.empty, GoodD.empty, by simp [initS]; omega, by simp [initS]; omega, by simp [initS]; omega⟩
def freeS (e : Ex) : List ByteArray := (exS e initS).l
theorem free_c (e : Ex) (hs : smallEx e) (hw : wfEx e) (hu : uE e ≤ 1000000) : PCalls Tryz.prog 23 [.agg (exP e)] (fun r => r = .sl (nmP (freeS e))) := by
  have hc := ex_c e hs hw hu initS (initS_ok _ (by omega))
  obtain ⟨k, li, co, m, b, n, ks, ps, bs⟩ := e
  refine pcalls_weak (a23 k li co m (byP b) n (exPs ks) (arPs bs ps) _ ?_)
  unfold p23
  exact ⟨_, _, _, _, _, ⟨enters_of Tryz.func61 (by kernel_rfl) rfl, hc, rfl, rfl⟩⟩
end Go.Proofs.YtcmnjodjebcapaaGreat.Deep

namespace Go.Proofs.YtcmnjodjebcapaaGreat.Deep
open Go.RowKit
set_option linter.unusedVariables false
def loops11 (id : Nat) : Option (List Nat × List (Nat × Sh)) := none
def p11  (Q : PV → Heap → Prop) : Prop :=
∃ i1 : Int, ∃ i2 : Int, CallN Tryz.prog 21 [(.agg [(.con (.int .i64 0)), (.con (.int .i64 0)), (.con (.int .i64 0)), (.con (.int .i64 5)), (.sl []), (.con (.string ⟨#[]⟩)), (.sl []), (.sl [])])] [[(.con (.int .i64 0)), (.con (.int .i64 0)), (.con (.int .i64 0)), (.con (.int .i64 5)), (.con (.slice none 0 0)), (.con (.string ⟨#[]⟩)), (.con (.slice none 0 0)), (.con (.slice none 0 0))]] (.tup [i1, i2])
  (∃ l3 : List (List PV), CallN Tryz.prog 23 [(.agg [(.con (.int .i64 6)), (.con (.int .i64 0)), (.con (.int .i64 0)), (.con (.int .i64 0)), (.sl []), (.con (.string ⟨#[120]⟩)), (.sl [[(.con (.int .i64 2)), (.con (.int .i64 0)), (.con (.int .i64 0)), (.con (.int .i64 0)), (.sl []), (.con (.string ⟨#[121]⟩)), (.sl []), (.sl [])], [(.con (.int .i64 2)), (.con (.int .i64 0)), (.con (.int .i64 0)), (.con (.int .i64 0)), (.sl []), (.con (.string ⟨#[120]⟩)), (.sl []), (.sl [])]]), (.sl [])])] [[(.con (.int .i64 0)), (.con (.int .i64 0)), (.con (.int .i64 0)), (.con (.int .i64 5)), (.con (.slice none 0 0)), (.con (.string ⟨#[]⟩)), (.con (.slice none 0 0)), (.con (.slice none 0 0))], [.tip]] l3
  (∃ b4 : Bool, CallN Tryz.prog 14 [(.agg [(.con (.int .i64 0)), (.con (.int .i64 0)), (.con (.int .i64 0)), (.con (.int .i64 5)), (.sl []), (.con (.string ⟨#[]⟩)), (.sl []), (.sl [])])] [[(.con (.int .i64 0)), (.con (.int .i64 0)), (.con (.int .i64 0)), (.con (.int .i64 5)), (.con (.slice none 0 0)), (.con (.string ⟨#[]⟩)), (.con (.slice none 0 0)), (.con (.slice none 0 0))], [.tip]] b4
  (br (b4)
  (br (((i1 : Int) == 1))
  (br (((i2 : Int) == 0))
  (br ((((List.length l3 : Int) : Int) == 1))
  (∃ s5 : ByteArray, IdxN l3 0 [s5]
  (Q (.con (.bool (ByteArray.toList s5 == ByteArray.toList ⟨#[121]⟩))) [[(.con (.int .i64 0)), (.con (.int .i64 0)), (.con (.int .i64 0)), (.con (.int .i64 5)), (.con (.slice none 0 0)), (.con (.string ⟨#[]⟩)), (.con (.slice none 0 0)), (.con (.slice none 0 0))], [.tip]]))
  (Q (.con (.bool false)) [[(.con (.int .i64 0)), (.con (.int .i64 0)), (.con (.int .i64 0)), (.con (.int .i64 5)), (.con (.slice none 0 0)), (.con (.string ⟨#[]⟩)), (.con (.slice none 0 0)), (.con (.slice none 0 0))], [.tip]]))
  (Q (.con (.bool false)) [[(.con (.int .i64 0)), (.con (.int .i64 0)), (.con (.int .i64 0)), (.con (.int .i64 5)), (.con (.slice none 0 0)), (.con (.string ⟨#[]⟩)), (.con (.slice none 0 0)), (.con (.slice none 0 0))], [.tip]]))
  (Q (.con (.bool false)) [[(.con (.int .i64 0)), (.con (.int .i64 0)), (.con (.int .i64 0)), (.con (.int .i64 5)), (.con (.slice none 0 0)), (.con (.string ⟨#[]⟩)), (.con (.slice none 0 0)), (.con (.slice none 0 0))], [.tip]]))
  (Q (.con (.bool false)) [[(.con (.int .i64 0)), (.con (.int .i64 0)), (.con (.int .i64 0)), (.con (.int .i64 5)), (.con (.slice none 0 0)), (.con (.string ⟨#[]⟩)), (.con (.slice none 0 0)), (.con (.slice none 0 0))], [.tip]]))))
theorem a11  (Q : PV → Heap → Prop) (h : p11  Q) : ACalls Tryz.prog 11 [] [] Q := by
  have hb : Option.some (bodyOf Tryz.f11) = Tryz.f11.body := by kernel_rfl
  exact acalls_eq (S := S) (L := loops11) mixed tok Tryz.func11 hb.symm (by kernel_rfl) h
end Go.Proofs.YtcmnjodjebcapaaGreat.Deep

namespace Go.Proofs.YtcmnjodjebcapaaGreat.Deep
open Go.RowKit
set_option linter.unusedVariables false
set_option linter.unusedSimpArgs false
def five : Ex := .mk 0 0 0 5 [] ⟨#[]⟩ [] [] []
def varX (s : ByteArray) : Ex := .mk 2 0 0 0 [] s [] [] []
def letE : Ex := .mk 6 0 0 0 [] ⟨#[120]⟩ [varX ⟨#[121]⟩, varX ⟨#[120]⟩] [] []
theorem letE_free : freeS letE = [⟨#[121]⟩] := by kernel_rfl
theorem letE_u : uE letE ≤ 1000000 := by decide
theorem five_small : smallEx five := by
  refine ⟨by decide, by decide, by decide, by decide, by decide, trivial, trivial, trivial⟩
theorem five_wf : wfEx five := by simp [five, wfEx, wfExs]
theorem letE_small : smallEx letE := by
  refine ⟨by decide, by decide, by decide, by decide, by decide, ?_, trivial, trivial⟩
  simp [varX, smallExs, smallEx, smallPts]
  decide
theorem letE_wf : wfEx letE := by simp [letE, varX, wfEx, wfExs]
theorem awake_p : PCalls Tryz.prog 11 [] (fun r => r = .con (.bool true)) := by
  refine a11 _ ?_
  unfold p11
  refine ⟨_, _, call_p (enters_of Tryz.func21 (by kernel_rfl) rfl) (nodes_p five five_small five_wf) rfl ?_⟩
  have hf := free_c letE letE_small letE_wf letE_u
  rw [letE_free] at hf
  refine ⟨_, call_p (enters_of Tryz.func23 (by kernel_rfl) rfl) hf rfl ?_⟩
  refine ⟨_, call_p (enters_of Tryz.func14 (by kernel_rfl) rfl) (fit_exF' five five_small five_wf) rfl ?_⟩
  have e1 : fitEx 64 five = true := by kernel_rfl
  have e2 : W (cntE five) = 1 := by kernel_rfl
  have e3 : W (cntQ five) = 0 := by kernel_rfl
  rw [e1, e2, e3]
  exact ⟨⟨#[121]⟩, ⟨Int.le_refl 0, rfl, by simp, rfl⟩⟩
end Go.Proofs.YtcmnjodjebcapaaGreat.Deep
