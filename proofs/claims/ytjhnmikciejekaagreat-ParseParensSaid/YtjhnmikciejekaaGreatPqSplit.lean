/-
  Texts of one proof, in their order. No condition.
-/
import Derived.RegionTactic
import Derived.Outline
import Derived.Test.YtjhnmikciejekaaGreatPqMem
namespace Go.Proofs.YtjhnmikciejekaaGreat
open Go.ChangeShapes Go.WideShapes Go.ChangeAt Go.RowKit
set_option linter.unusedVariables false
theorem bad_yes (s : ByteArray) (i : Nat) (hs : s.size ≤ 16384) (hi : i < s.size) (hb : badAt s i = true) (w : World) : Calls Tryz.prog 141 #[.string s, .int .i64 (i : Int), .int .i32 ((Utf8.decode s i).1 : Int)] w fun e w' => e = .returned (.bool true) ∧ w = w' := by
  rw [← hb]; exact bad_any s i hs hi w
theorem bad_no (s : ByteArray) (i : Nat) (hs : s.size ≤ 16384) (hi : i < s.size) (hb : badAt s i = false) (w : World) : Calls Tryz.prog 141 #[.string s, .int .i64 (i : Int), .int .i32 ((Utf8.decode s i).1 : Int)] w fun e w' => e = .returned (.bool false) ∧ w = w' := by
  rw [← hb]; exact bad_any s i hs hi w
set_option maxHeartbeats 1000000 in
set_option maxRecDepth 100000 in
theorem split_long (s : ByteArray) (h : 16384 < s.size) (h2 : s.size ≤ 9223372036854775807) (w : World) : Calls Tryz.prog 100 #[.string s] w fun e w' => e = .returned (.tuple #[.slice none 0 0, .agg #[.int .i64 5, .int .i64 1, .int .i64 1]]) ∧ Below w.heap.size w w' := by
  go_enter Tryz.func100, Tryz.ntmps100
  go_wp2_with (go_at_call 140; ((with_reducible refine (first_new _).mono ?_); rintro e w' ⟨rfl, rfl⟩))
  exact bodyPost_ret (v := .tuple #[.slice none 0 0, .agg #[.int .i64 5, .int .i64 1, .int .i64 1]]) (by simp [results, Tryz.results100, go_sem]) rfl ⟨rfl, ((Below.refl _ _).alloc (Nat.le_refl _) _).alloc (by simp) _⟩
def SplitTells (s : ByteArray) (w : World) (e : Ending) (w' : World) : Prop :=
  (∃ L C, badOf s = some (L, C) ∧ e = .returned (.tuple #[.slice none 0 0, .agg #[.int .i64 1, .int .i64 L, .int .i64 C]]) ∧ Below w.heap.size w w') ∨
  (badOf s = none ∧ ∃ A n c, e = .returned (.tuple #[.slice A n c, .agg #[.int .i64 0, .int .i64 0, .int .i64 0]]) ∧ n = (runesOf s).length ∧ w'.ownsRow w.heap.size 111 4 (.slice A n c) n (listCells (runesOf s)) ∧ Below w.heap.size w w')
structure Sums (s : ByteArray) (pos f : Nat) (acc : List Ent) (L C : Int) : Prop where
  runes : acc ++ runesF s f pos L C = runesOf s
  bads : badF s f pos L C = badOf s
  fuel : s.size ≤ pos + f
  pos_le : pos ≤ s.size
  lo : 1 ≤ L ∧ 1 ≤ C ∧ L ≤ pos + 1 ∧ C ≤ pos + 1
  len : acc.length ≤ pos
theorem Sums.zero (s : ByteArray) : Sums s 0 s.size [] 1 1 := ⟨rfl, rfl, by omega, by omega, by omega, by simp⟩
theorem Sums.step {s : ByteArray} {pos f : Nat} {acc : List Ent} {L C : Int} (h : Sums s pos f acc L C) (hp : pos < s.size) (hb : badAt s pos = false) :
    Sums s (pos + (Utf8.decode s pos).2) (f - 1) (acc ++ [(((Utf8.decode s pos).1 : Int), pos, L, C)]) (nlL (Utf8.decode s pos).1 L) (nlC (Utf8.decode s pos).1 C) := by
  have hw := dec_width s pos hp
  have hn := nl_le (Utf8.decode s pos).1 L C h.lo.1 h.lo.2.1
  have hf := h.fuel
  have hl := h.lo
  have hle := h.len
  obtain ⟨g, rfl⟩ : ∃ g, f = g + 1 := ⟨f - 1, by omega⟩
  refine ⟨?_, ?_, by omega, by omega, by omega, by simp; omega⟩
  · rw [← h.runes, runesF_good s g pos L C hp hb]; simp
  · rw [← h.bads, badF_good s g pos L C hp hb]; rfl
def SplitRel (s : ByteArray) (w : World) (v : Value) (wr : World) : Prop :=
  ∃ pos f acc L C, Mem w w.heap.size (w.heap.size + 1 + 1) (w.heap.size + 1 + 1 + 1 + 1) v wr acc L C ∧ wr.heap[w.heap.size + 1 + 1 + 1]? = some (.stringIter s pos) ∧ Sums s pos f acc L C
set_option maxHeartbeats 2000000 in
set_option maxRecDepth 100000 in
theorem split_any (s : ByteArray) (h : s.size ≤ 16384) (w : World) : Calls Tryz.prog 100 #[.string s] w (SplitTells s w) := by
  obtain ⟨i0, hi, hz0, hz1, hz2⟩ := info_parts Tryz.info111
  go_enter Tryz.func100, Tryz.ntmps100
  go_wp2_with (go_at_call 140; ((with_reducible refine (first_new _).mono ?_); rintro e w' ⟨rfl, rfl⟩))
  go_loopw [4] (fun v wr => SplitRel s w v wr) (fun _ wr => s.size - wr.iterPos (w.heap.size + 1 + 1 + 1))
  case atStart =>
    have hh := heap_four w (.cells #[.int .i64 0, .int .i64 0, .int .i64 0] 40) (.cells #[.int .i64 1, .int .i64 1] 29) (.cells #[.int .i64 1, .int .i64 1] 29) (.stringIter s 0)
    refine ⟨0, s.size, [], 1, 1, ⟨hh.1, hh.2.1, World.ownsRow_nil _ _ _ _, ?_, by omega, by omega, by simp [World.iter]⟩, hh.2.2, Sums.zero s⟩
    exact ((((Below.refl _ _).alloc (Nat.le_refl _) _).alloc (by simp) _).alloc (by simp; omega) _).alloc (by simp; omega) _
  case round =>
    obtain ⟨pos, f, acc, L, C, M, hit, S⟩ := hrel
    have hlo := S.lo
    have hple := S.pos_le
    have hlen := S.len
    by_cases hp : pos < s.size
    · have hnx : ∀ ty, (Instr.next (.pointer (some ⟨w.heap.size + 1 + 1 + 1, 0, none⟩)) true ty).run Tryz.prog wr = _ := fun ty => Lib.run_next_any_at wr (w.heap.size + 1 + 1 + 1) s pos ty hit hp
      have hwd := dec_width s pos hp
      have M1 := M.iter (w.heap.size + 1 + 1 + 1) (by omega) s (pos + (Utf8.decode s pos).2)
      have hit1 := Lib.iterAt_heap wr (w.heap.size + 1 + 1 + 1) s pos (pos + (Utf8.decode s pos).2) hit
      obtain ⟨W1, hW1⟩ : ∃ W1, wr.iterAt (w.heap.size + 1 + 1 + 1) s (pos + (Utf8.decode s pos).2) = W1 := ⟨_, rfl⟩
      rw [hW1] at hnx M1 hit1
      clear hW1
      have Hit := Lib.hid hit
      have Hit1 := Lib.hid hit1
      clear hit hit1
      have hc0 := M1.cell0
      have hc1 := M1.cell1
      cases hbad : badAt s pos
      · have hO := M1.ord.2.2
        have S2 := S.step hp hbad
        go_wp2_with (first | (go_at_call 141; ((with_reducible refine (bad_no s pos h hp hbad _).mono ?_); rintro e w' ⟨rfl, rfl⟩)) | (at_builtin; refine wpList_append_own _ rfl _ _ 106 rfl (w.heap.size + 1 + 1 + 1 + 1) 111 i0 (.agg #[.int .i32 0, .int .i64 0, .int .i64 0, .int .i64 0]) 4 32 Tryz.underlying106 hi hz0 hz1 hz2 rfl (by decide) _ _ _ rfl (M1.own.alloc _) ⟨W1.heap.size, 0, none⟩ 1 1 (entCells (((Utf8.decode s pos).1 : Int), pos, L, C)) rfl rfl ?c1 ?c2 ?c3 ?c4 ?c5 ?_))
        case c1 =>
          intro j u hj
          match j, hj with
          | 0, hj => simp [entCells] at hj; subst hj; simp [Addr.add]
          | 1, hj => simp [entCells] at hj; subst hj; simp [Addr.add]
          | 2, hj => simp [entCells] at hj; subst hj; simp [Addr.add]
          | 3, hj => simp [entCells] at hj; subst hj; simp [Addr.add]
          | (j + 4), hj => simp [entCells] at hj
        case c2 => intro u hu; simp [entCells] at hu; rcases hu with rfl | rfl | rfl | rfl <;> rfl
        case c3 => unfold maxLen; omega
        case c4 => omega
        case c5 => simp; omega
        intro v' w2 hown' hgrow _
        have M2 := M1.grow hown' hgrow
        have hk2 := M1.grow_block hgrow (w.heap.size + 1 + 1 + 1) (by omega)
        have Hk2 := Lib.hid hk2
        clear hk2 hown' hgrow hc0 hc1 hnx
        have hd0 := M2.cell0
        have hd1 := M2.cell1
        go_wp2_with (go_at_call 142; ((with_reducible refine (behind_any _ _ _ (by omega) (by omega) (by omega) (by omega) _).mono ?_)))
        rintro e w3 ⟨rfl, hb3⟩
        have M3 := M2.later hb3
        have he0 := M3.cell0
        have he1 := M3.cell1
        have hf0 := M3.free 0
        have hf1 := M3.free 1
        go_wp2
        have hk3 : w3.heap[w.heap.size + 1 + 1 + 1]? = some (.stringIter s (pos + (Utf8.decode s pos).2)) :=
          (hb3.block _ (by have := M2.ord; omega)).trans (Hk2.out.trans Hit1.out)
        have M4 := M3.store (nlL (Utf8.decode s pos).1 L) (nlC (Utf8.decode s pos).1 C)
        have hk4 : ((w3.setCell ⟨w.heap.size + 1 + 1, 0, none⟩ (.int .i64 (nlL (Utf8.decode s pos).1 L))).setCell ⟨w.heap.size + 1 + 1, 1, none⟩ (.int .i64 (nlC (Utf8.decode s pos).1 C))).heap[w.heap.size + 1 + 1 + 1]? = some (.stringIter s (pos + (Utf8.decode s pos).2)) := by
          rw [Below.heap_setCell _ _ _ _ (by simp), Below.heap_setCell _ _ _ _ (by simp)]; exact hk3
        refine ⟨⟨_, _, _, _, _, M4, hk4, S2⟩, ?_⟩
        rw [iterPos_of hk4, iterPos_of Hit.out]
        omega
      · have hg0 := M1.fcell0
        have hg1 := M1.fcell1
        have hg2 := M1.fcell2
        have hf0 := M1.ffree 0
        have hf1 := M1.ffree 1
        have hf2 := M1.ffree 2
        go_wp2_with (first | (go_at_call 141; ((with_reducible refine (bad_yes s pos h hp hbad _).mono ?_); rintro e w' ⟨rfl, rfl⟩)))
        go_region
        go_wp2
        obtain ⟨g, rfl⟩ : ∃ g, f = g + 1 := ⟨f - 1, by have := S.fuel; omega⟩
        refine bodyPost_ret (v := .tuple #[.slice none 0 0, .agg #[.int .i64 1, .int .i64 L, .int .i64 C]]) (by simp [results, Tryz.results100, go_sem, hg0, hg1, hg2]) rfl (.inl ⟨L, C, ?_, rfl, (M1.fset _ _ _).drew⟩)
        rw [← S.bads, badF_bad s g pos L C hp hbad]
    · have hnx : ∀ ty, (Instr.next (.pointer (some ⟨w.heap.size + 1 + 1 + 1, 0, none⟩)) true ty).run Tryz.prog wr = _ := fun ty => Lib.run_next_end_at wr (w.heap.size + 1 + 1 + 1) s pos ty hit hp
      have hg0 := M.fcell0
      have hg1 := M.fcell1
      have hg2 := M.fcell2
      have hf0 := M.ffree 0
      have hf1 := M.ffree 1
      have hf2 := M.ffree 2
      have hr := S.runes
      have hb := S.bads
      rw [runesF_end s f pos L C hp, List.append_nil] at hr
      rw [badF_end s f pos L C hp] at hb
      subst hr
      have Hb := Lib.hid hb
      clear hb
      obtain ⟨A, c, rfl⟩ := owns_form M.own
      go_wp2
      exact bodyPost_ret (v := .tuple #[.slice A (runesOf s).length c, .agg #[.int .i64 0, .int .i64 0, .int .i64 0]]) (by simp [results, Tryz.results100, go_sem, hg0, hg1, hg2]) rfl (.inr ⟨Hb.out.symm, A, _, c, rfl, rfl, M.done _ _ _, M.fset _ _ _⟩)
end Go.Proofs.YtjhnmikciejekaaGreat
