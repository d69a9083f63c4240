/-
  Texts of one proof, in their order. No condition.
-/
import Derived.Test.YtjhnmikciejekaaGreatPqPki
set_option linter.unusedSectionVars false
set_option linter.unusedSimpArgs false
set_option linter.unusedVariables false
namespace Go.Proofs.YtjhnmikciejekaaGreat.Deep
open Go.RowKit
set_option linter.unusedVariables false
def p11 (s1 : ByteArray) (Q : PV → Heap → Prop) : Prop :=
∃ i2 : Int, ∃ i3 : Int, ∃ i4 : Int, ∃ i5 : Int, ∃ l6 : List (List PV), ∃ s7 : ByteArray, ∃ l8 : List (List PV), ∃ l9 : List (List PV), ∃ i10 : Int, ∃ i11 : Int, ∃ i12 : Int, CallN Tryz.prog 31 [s1, (.fn 32 [])] [[(.con (.int .i64 0)), (.con (.int .i64 0)), (.con (.int .i64 0)), (.con (.int .i64 0)), (.con (.slice none 0 0)), (.con (.string ⟨#[]⟩)), (.con (.slice none 0 0)), (.con (.slice none 0 0))], [(.con (.int .i64 0)), (.con (.int .i64 0)), (.con (.int .i64 0))]] (.tup [(.agg [i2, i3, i4, i5, l6, s7, l8, l9]), (.agg [i10, i11, i12])])
  (Q (.tup [(.agg [i2, i3, i4, i5, l6, s7, l8, l9]), (.agg [i10, i11, i12])]) [[i2, i3, i4, i5, l6, s7, l8, l9], [i10, i11, i12]])
theorem a11 (s1 : ByteArray) (Q : PV → Heap → Prop) (h : p11 s1 Q) : ACalls Tryz.prog 11 [s1] [] Q := by
  have hb : Option.some (bodyOf Tryz.f11) = Tryz.f11.body := by kernel_rfl
  exact acalls_eq (S := S) (L := loops60) mixed tok Tryz.func11 hb.symm (by kernel_rfl) h
def p13 (s1 : ByteArray) (Q : PV → Heap → Prop) : Prop :=
∃ i2 : Int, ∃ s3 : ByteArray, ∃ l4 : List (List PV), ∃ i5 : Int, ∃ i6 : Int, ∃ i7 : Int, CallN Tryz.prog 35 [s1, (.fn 36 [])] [[(.con (.int .i64 0)), (.con (.string ⟨#[]⟩)), (.con (.slice none 0 0))], [(.con (.int .i64 0)), (.con (.int .i64 0)), (.con (.int .i64 0))]] (.tup [(.agg [i2, s3, l4]), (.agg [i5, i6, i7])])
  (Q (.tup [(.agg [i2, s3, l4]), (.agg [i5, i6, i7])]) [[i2, s3, l4], [i5, i6, i7]])
theorem a13 (s1 : ByteArray) (Q : PV → Heap → Prop) (h : p13 s1 Q) : ACalls Tryz.prog 13 [s1] [] Q := by
  have hb : Option.some (bodyOf Tryz.f13) = Tryz.f13.body := by kernel_rfl
  exact acalls_eq (S := S) (L := loops60) mixed tok Tryz.func13 hb.symm (by kernel_rfl) h
def p8 (s1 : ByteArray) (Q : PV → Heap → Prop) : Prop :=
∃ l2 : List (List PV), ∃ l3 : List (List PV), ∃ i4 : Int, ∃ i5 : Int, ∃ i6 : Int, ∃ s7 : ByteArray, ∃ l8 : List (List PV), ∃ i9 : Int, ∃ i10 : Int, ∃ i11 : Int, ∃ i12 : Int, ∃ i13 : Int, ∃ l14 : List (List PV), ∃ s15 : ByteArray, ∃ l16 : List (List PV), ∃ l17 : List (List PV), ∃ l18 : List (List PV), ∃ i19 : Int, ∃ i20 : Int, ∃ i21 : Int, CallN Tryz.prog 25 [s1, (.fn 26 [])] [[(.con (.slice none 0 0)), (.con (.slice none 0 0)), (.con (.int .i64 0)), (.con (.int .i64 0)), (.con (.int .i64 0)), (.con (.string ⟨#[]⟩)), (.con (.slice none 0 0)), (.con (.int .i64 0)), (.con (.int .i64 0)), (.con (.int .i64 0)), (.con (.int .i64 0)), (.con (.int .i64 0)), (.con (.slice none 0 0)), (.con (.string ⟨#[]⟩)), (.con (.slice none 0 0)), (.con (.slice none 0 0)), (.con (.slice none 0 0))], [(.con (.int .i64 0)), (.con (.int .i64 0)), (.con (.int .i64 0))]] (.tup [(.agg [l2, l3, i4, i5, i6, s7, l8, i9, i10, i11, i12, i13, l14, s15, l16, l17, l18]), (.agg [i19, i20, i21])])
  (Q (.tup [(.agg [l2, l3, i4, i5, i6, s7, l8, i9, i10, i11, i12, i13, l14, s15, l16, l17, l18]), (.agg [i19, i20, i21])]) [[l2, l3, i4, i5, i6, s7, l8, i9, i10, i11, i12, i13, l14, s15, l16, l17, l18], [i19, i20, i21]])
theorem a8 (s1 : ByteArray) (Q : PV → Heap → Prop) (h : p8 s1 Q) : ACalls Tryz.prog 8 [s1] [] Q := by
  have hb : Option.some (bodyOf Tryz.f8) = Tryz.f8.body := by kernel_rfl
  exact acalls_eq (S := S) (L := loops60) mixed tok Tryz.func8 hb.symm (by kernel_rfl) h
end Go.Proofs.YtjhnmikciejekaaGreat.Deep

namespace Go.Proofs.YtjhnmikciejekaaGreat.Deep
open Go.RowKit
set_option linter.unusedVariables false
theorem under_E (s : ByteArray) : (faceE s).under 0 = true := by
  unfold faceE
  cases faceS (fun z l b => pE z (l.length + 1) l b) s with
  | ok e => obtain ⟨k, li, co, m, y, n, ks, ps, bs⟩ := e; rfl
  | error f => rfl
theorem expr_p (s : ByteArray) (hs : s.size ≤ 9223372036854775807) : PCalls Tryz.prog 11 [.con (.string s)] (fun r => r = faceE s) := by
  have c : PCalls Tryz.prog 31 [.con (.string s), .fn 32 []] (fun r => r = faceE s) := (read_E s hs).mono fun r h' ⟨_, e⟩ => ⟨e, by rw [e]; exact under_E s⟩
  have en : Enters Tryz.prog 31 := enters_of Tryz.func31 (by kernel_rfl) rfl
  refine a11 s _ ?_
  unfold p11
  unfold faceE at c ⊢
  cases hx : faceS (fun z l b => pE z (l.length + 1) l b) s with
  | ok e =>
    obtain ⟨k, li, co, m, y, n, ks, ps, bs⟩ := e
    rw [hx] at c
    exact ⟨k, li, co, m, byP y, n, exPs ks, arPs bs ps, 0, 0, 0, call_p en c rfl ⟨rfl, rfl⟩⟩
  | error f =>
    rw [hx] at c
    exact ⟨0, 0, 0, 0, [], e0, [], [], f.e, f.li, f.co, call_p en c rfl ⟨rfl, rfl⟩⟩
end Go.Proofs.YtjhnmikciejekaaGreat.Deep
