/-
  What the document's own sign tells of two runes. No condition but that the row of runes lies in memory.
-/
import Derived.Test.YtdmgpeflanjngaaDoorRefA
namespace Go.Proofs.YtdmgpeflanjngaaDoor
open Go.ChangeShapes Go.WideShapes Go.ChangeAt Go.RowKit
set_option linter.unusedVariables false


theorem signF_end (c : Int) : signF c (-1) = signF c 0 := by simp [signF]
def signsL : List Int := [40, 41, 44, 124, 61, 58, 43, 45, 42, 47, 37, 60, 95, 126]
theorem signF_one {c d : Int} (h : ¬ (c = 45 ∧ d = 62) ∧ ¬ (c = 60 ∧ d = 61) ∧ ¬ (c = 61 ∧ d = 61)) (hc : c ∈ signsL) : signF c d = [c.toNat.toUInt8] := by
  rw [signF, if_neg h.1, if_neg h.2.1, if_neg h.2.2, if_pos]
  simp [signsL] at hc; omega
theorem signF_none {c d : Int} (h : ¬ (c = 45 ∧ d = 62) ∧ ¬ (c = 60 ∧ d = 61) ∧ ¬ (c = 61 ∧ d = 61)) (hc : ¬ c ∈ signsL) : signF c d = [] := by
  rw [signF, if_neg h.1, if_neg h.2.1, if_neg h.2.2, if_neg]
  simp [signsL] at hc; omega
theorem signs_no {c : Int} (h : ∀ j x, signsL[j]? = some x → j < 14 → x ≠ c) : ¬ c ∈ signsL := by
  intro hc
  obtain ⟨j, hj⟩ := List.mem_iff_getElem?.1 hc
  have : j < 14 := (List.getElem?_eq_some_iff.1 hj).1
  exact h j c hj this rfl

/-- What one sign, or none, is told as. -/
def SgOne (c d : Int) : Prop := (c ∈ signsL → signF c d = [c.toNat.toUInt8]) ∧ (¬ c ∈ signsL → signF c d = [])
theorem sgOne_of {c d : Int} (h : ¬ (c = 45 ∧ d = 62) ∧ ¬ (c = 60 ∧ d = 61) ∧ ¬ (c = 61 ∧ d = 61)) : SgOne c d := ⟨signF_one h, signF_none h⟩
theorem sg0 (h : 0 < ({ data := #[40, 41, 44, 124, 61, 58, 43, 45, 42, 47, 37, 60, 95, 126] } : ByteArray).size) : wrap32 ((({ data := #[40, 41, 44, 124, 61, 58, 43, 45, 42, 47, 37, 60, 95, 126] } : ByteArray)[0]'h).toNat : Int) = 40 := by
  have e : (({ data := #[40, 41, 44, 124, 61, 58, 43, 45, 42, 47, 37, 60, 95, 126] } : ByteArray)[0]'h).toNat = 40 := by kernel_rfl
  rw [e]; decide +kernel
theorem sg1 (h : 1 < ({ data := #[40, 41, 44, 124, 61, 58, 43, 45, 42, 47, 37, 60, 95, 126] } : ByteArray).size) : wrap32 ((({ data := #[40, 41, 44, 124, 61, 58, 43, 45, 42, 47, 37, 60, 95, 126] } : ByteArray)[1]'h).toNat : Int) = 41 := by
  have e : (({ data := #[40, 41, 44, 124, 61, 58, 43, 45, 42, 47, 37, 60, 95, 126] } : ByteArray)[1]'h).toNat = 41 := by kernel_rfl
  rw [e]; decide +kernel
theorem sg2 (h : 2 < ({ data := #[40, 41, 44, 124, 61, 58, 43, 45, 42, 47, 37, 60, 95, 126] } : ByteArray).size) : wrap32 ((({ data := #[40, 41, 44, 124, 61, 58, 43, 45, 42, 47, 37, 60, 95, 126] } : ByteArray)[2]'h).toNat : Int) = 44 := by
  have e : (({ data := #[40, 41, 44, 124, 61, 58, 43, 45, 42, 47, 37, 60, 95, 126] } : ByteArray)[2]'h).toNat = 44 := by kernel_rfl
  rw [e]; decide +kernel
theorem sg3 (h : 3 < ({ data := #[40, 41, 44, 124, 61, 58, 43, 45, 42, 47, 37, 60, 95, 126] } : ByteArray).size) : wrap32 ((({ data := #[40, 41, 44, 124, 61, 58, 43, 45, 42, 47, 37, 60, 95, 126] } : ByteArray)[3]'h).toNat : Int) = 124 := by
  have e : (({ data := #[40, 41, 44, 124, 61, 58, 43, 45, 42, 47, 37, 60, 95, 126] } : ByteArray)[3]'h).toNat = 124 := by kernel_rfl
  rw [e]; decide +kernel
theorem sg4 (h : 4 < ({ data := #[40, 41, 44, 124, 61, 58, 43, 45, 42, 47, 37, 60, 95, 126] } : ByteArray).size) : wrap32 ((({ data := #[40, 41, 44, 124, 61, 58, 43, 45, 42, 47, 37, 60, 95, 126] } : ByteArray)[4]'h).toNat : Int) = 61 := by
  have e : (({ data := #[40, 41, 44, 124, 61, 58, 43, 45, 42, 47, 37, 60, 95, 126] } : ByteArray)[4]'h).toNat = 61 := by kernel_rfl
  rw [e]; decide +kernel
theorem sg5 (h : 5 < ({ data := #[40, 41, 44, 124, 61, 58, 43, 45, 42, 47, 37, 60, 95, 126] } : ByteArray).size) : wrap32 ((({ data := #[40, 41, 44, 124, 61, 58, 43, 45, 42, 47, 37, 60, 95, 126] } : ByteArray)[5]'h).toNat : Int) = 58 := by
  have e : (({ data := #[40, 41, 44, 124, 61, 58, 43, 45, 42, 47, 37, 60, 95, 126] } : ByteArray)[5]'h).toNat = 58 := by kernel_rfl
  rw [e]; decide +kernel
theorem sg6 (h : 6 < ({ data := #[40, 41, 44, 124, 61, 58, 43, 45, 42, 47, 37, 60, 95, 126] } : ByteArray).size) : wrap32 ((({ data := #[40, 41, 44, 124, 61, 58, 43, 45, 42, 47, 37, 60, 95, 126] } : ByteArray)[6]'h).toNat : Int) = 43 := by
  have e : (({ data := #[40, 41, 44, 124, 61, 58, 43, 45, 42, 47, 37, 60, 95, 126] } : ByteArray)[6]'h).toNat = 43 := by kernel_rfl
  rw [e]; decide +kernel
theorem sg7 (h : 7 < ({ data := #[40, 41, 44, 124, 61, 58, 43, 45, 42, 47, 37, 60, 95, 126] } : ByteArray).size) : wrap32 ((({ data := #[40, 41, 44, 124, 61, 58, 43, 45, 42, 47, 37, 60, 95, 126] } : ByteArray)[7]'h).toNat : Int) = 45 := by
  have e : (({ data := #[40, 41, 44, 124, 61, 58, 43, 45, 42, 47, 37, 60, 95, 126] } : ByteArray)[7]'h).toNat = 45 := by kernel_rfl
  rw [e]; decide +kernel
theorem sg8 (h : 8 < ({ data := #[40, 41, 44, 124, 61, 58, 43, 45, 42, 47, 37, 60, 95, 126] } : ByteArray).size) : wrap32 ((({ data := #[40, 41, 44, 124, 61, 58, 43, 45, 42, 47, 37, 60, 95, 126] } : ByteArray)[8]'h).toNat : Int) = 42 := by
  have e : (({ data := #[40, 41, 44, 124, 61, 58, 43, 45, 42, 47, 37, 60, 95, 126] } : ByteArray)[8]'h).toNat = 42 := by kernel_rfl
  rw [e]; decide +kernel
theorem sg9 (h : 9 < ({ data := #[40, 41, 44, 124, 61, 58, 43, 45, 42, 47, 37, 60, 95, 126] } : ByteArray).size) : wrap32 ((({ data := #[40, 41, 44, 124, 61, 58, 43, 45, 42, 47, 37, 60, 95, 126] } : ByteArray)[9]'h).toNat : Int) = 47 := by
  have e : (({ data := #[40, 41, 44, 124, 61, 58, 43, 45, 42, 47, 37, 60, 95, 126] } : ByteArray)[9]'h).toNat = 47 := by kernel_rfl
  rw [e]; decide +kernel
theorem sg10 (h : 10 < ({ data := #[40, 41, 44, 124, 61, 58, 43, 45, 42, 47, 37, 60, 95, 126] } : ByteArray).size) : wrap32 ((({ data := #[40, 41, 44, 124, 61, 58, 43, 45, 42, 47, 37, 60, 95, 126] } : ByteArray)[10]'h).toNat : Int) = 37 := by
  have e : (({ data := #[40, 41, 44, 124, 61, 58, 43, 45, 42, 47, 37, 60, 95, 126] } : ByteArray)[10]'h).toNat = 37 := by kernel_rfl
  rw [e]; decide +kernel
theorem sg11 (h : 11 < ({ data := #[40, 41, 44, 124, 61, 58, 43, 45, 42, 47, 37, 60, 95, 126] } : ByteArray).size) : wrap32 ((({ data := #[40, 41, 44, 124, 61, 58, 43, 45, 42, 47, 37, 60, 95, 126] } : ByteArray)[11]'h).toNat : Int) = 60 := by
  have e : (({ data := #[40, 41, 44, 124, 61, 58, 43, 45, 42, 47, 37, 60, 95, 126] } : ByteArray)[11]'h).toNat = 60 := by kernel_rfl
  rw [e]; decide +kernel
theorem sg12 (h : 12 < ({ data := #[40, 41, 44, 124, 61, 58, 43, 45, 42, 47, 37, 60, 95, 126] } : ByteArray).size) : wrap32 ((({ data := #[40, 41, 44, 124, 61, 58, 43, 45, 42, 47, 37, 60, 95, 126] } : ByteArray)[12]'h).toNat : Int) = 95 := by
  have e : (({ data := #[40, 41, 44, 124, 61, 58, 43, 45, 42, 47, 37, 60, 95, 126] } : ByteArray)[12]'h).toNat = 95 := by kernel_rfl
  rw [e]; decide +kernel
theorem sg13 (h : 13 < ({ data := #[40, 41, 44, 124, 61, 58, 43, 45, 42, 47, 37, 60, 95, 126] } : ByteArray).size) : wrap32 ((({ data := #[40, 41, 44, 124, 61, 58, 43, 45, 42, 47, 37, 60, 95, 126] } : ByteArray)[13]'h).toNat : Int) = 126 := by
  have e : (({ data := #[40, 41, 44, 124, 61, 58, 43, 45, 42, 47, 37, 60, 95, 126] } : ByteArray)[13]'h).toNat = 126 := by kernel_rfl
  rw [e]; decide +kernel
set_option maxRecDepth 100000 in
set_option maxHeartbeats 4000000 in
theorem rsign_core (A : Option Addr) (n m : Nat) (rs : List Ent) (i : Nat) (c d : Int) (w : World) (h : RRow w A n m rs) (hi : i < n) (hn : n ≤ 16384) (hc : runeAt rs i = c) (hd : (i + 1 < n ∧ runeAt rs (i + 1) = d) ∨ (n ≤ i + 1 ∧ d = 0)) (h1 : ¬ (c = 45 ∧ d = 62) ∧ ¬ (c = 60 ∧ d = 61) ∧ ¬ (c = 61 ∧ d = 61)) : Calls Tryd.prog 50 #[.slice A n m, .int .i64 (i : Int)] w fun e w' => e = .returned (.string ⟨(signF c d).toArray⟩) ∧ Below w.heap.size w w' := by
  obtain ⟨g, rfl, hg, hx⟩ := h.at' (by omega)
  have hcap := h.cap
  obtain ⟨e, he⟩ : ∃ e, rs[i]? = some e := ⟨rs[i]'(by have := h.len; omega), List.getElem?_eq_getElem _⟩
  obtain ⟨x0, -⟩ := hx i e he
  rw [rune_of he] at hc
  rw [hc] at x0
  have Hx := Lib.hid hx
  have Hlen := Lib.hid h.len
  have H1 := sgOne_of h1
  clear hx he
  rcases hd with ⟨hlt, hd⟩ | ⟨hge, rfl⟩
  · obtain ⟨e', he'⟩ : ∃ e, rs[i + 1]? = some e := ⟨rs[i + 1]'(by have := Hlen.out; omega), List.getElem?_eq_getElem _⟩
    obtain ⟨y0, -⟩ := Hx.out (i + 1) e' he'
    rw [rune_of he'] at hd
    rw [hd] at y0
    have hlt' : (i : Int) + 1 < n := by omega
    clear he' h
    have hsw : ((c == 45) = true ∧ (d == 62) = false ∧ (c == 60) = false ∧ (c == 61) = false) ∨ ((c == 45) = false ∧ (c == 60) = true ∧ (d == 61) = false ∧ (c == 61) = false) ∨ ((c == 45) = false ∧ (c == 60) = false ∧ (c == 61) = true ∧ (d == 61) = false) ∨ ((c == 45) = false ∧ (c == 60) = false ∧ (c == 61) = false) := by
      have := h1
      by_cases a : c = 45
      · left; simp; omega
      by_cases b : c = 60
      · right; left; simp; omega
      by_cases b : c = 61
      · right; right; left; simp; omega
      · right; right; right; simp; omega
    clear h1
    rcases hsw with ⟨q1, q2, q3, q4⟩ | ⟨q1, q2, q3, q4⟩ | ⟨q1, q2, q3, q4⟩ | ⟨q1, q2, q3⟩
    · obtain rfl : c = 45 := by simpa using q1
      go_enter Tryd.func50, Tryd.ntmps50
      go_wp2
      go_loopw [8] (fun v wr => ∃ k : Nat, k ≤ 14 ∧ v = .int .i64 (k : Int) ∧ (∀ j x, signsL[j]? = some x → j < k → x ≠ 45) ∧ Below w.heap.size w wr) (fun v _ => 14 - (intOf v).toNat)
      case atStart => exact ⟨0, by omega, rfl, fun j x _ h => by omega, Below.refl _ _⟩
      case round =>
        obtain ⟨k, hk, rfl, hno, hB⟩ := hrel
        by_cases hlt14 : k < 14
        · have hk14 : k = 0 ∨ k = 1 ∨ k = 2 ∨ k = 3 ∨ k = 4 ∨ k = 5 ∨ k = 6 ∨ k = 7 ∨ k = 8 ∨ k = 9 ∨ k = 10 ∨ k = 11 ∨ k = 12 ∨ k = 13 := by omega
          clear hlt14 hk
          rcases hk14 with rfl | rfl | rfl | rfl | rfl | rfl | rfl | rfl | rfl | rfl | rfl | rfl | rfl | rfl
          · skip
            · have hsg := sg0 (by decide)
              go_wp2
              refine ⟨⟨1, by omega, rfl, fun j x hj hltj => ?_, hB⟩, by simp [intOf]⟩
              rcases Nat.lt_or_eq_of_le (Nat.le_of_lt_succ hltj) with h | rfl
              · exact hno j x hj h
              · cases hj; decide
          · skip
            · have hsg := sg1 (by decide)
              go_wp2
              refine ⟨⟨2, by omega, rfl, fun j x hj hltj => ?_, hB⟩, by simp [intOf]⟩
              rcases Nat.lt_or_eq_of_le (Nat.le_of_lt_succ hltj) with h | rfl
              · exact hno j x hj h
              · cases hj; decide
          · skip
            · have hsg := sg2 (by decide)
              go_wp2
              refine ⟨⟨3, by omega, rfl, fun j x hj hltj => ?_, hB⟩, by simp [intOf]⟩
              rcases Nat.lt_or_eq_of_le (Nat.le_of_lt_succ hltj) with h | rfl
              · exact hno j x hj h
              · cases hj; decide
          · skip
            · have hsg := sg3 (by decide)
              go_wp2
              refine ⟨⟨4, by omega, rfl, fun j x hj hltj => ?_, hB⟩, by simp [intOf]⟩
              rcases Nat.lt_or_eq_of_le (Nat.le_of_lt_succ hltj) with h | rfl
              · exact hno j x hj h
              · cases hj; decide
          · skip
            · have hsg := sg4 (by decide)
              go_wp2
              refine ⟨⟨5, by omega, rfl, fun j x hj hltj => ?_, hB⟩, by simp [intOf]⟩
              rcases Nat.lt_or_eq_of_le (Nat.le_of_lt_succ hltj) with h | rfl
              · exact hno j x hj h
              · cases hj; decide
          · skip
            · have hsg := sg5 (by decide)
              go_wp2
              refine ⟨⟨6, by omega, rfl, fun j x hj hltj => ?_, hB⟩, by simp [intOf]⟩
              rcases Nat.lt_or_eq_of_le (Nat.le_of_lt_succ hltj) with h | rfl
              · exact hno j x hj h
              · cases hj; decide
          · skip
            · have hsg := sg6 (by decide)
              go_wp2
              refine ⟨⟨7, by omega, rfl, fun j x hj hltj => ?_, hB⟩, by simp [intOf]⟩
              rcases Nat.lt_or_eq_of_le (Nat.le_of_lt_succ hltj) with h | rfl
              · exact hno j x hj h
              · cases hj; decide
          · skip
            · have hsg := sg7 (by decide)
              go_wp2
              go_ret
              refine ⟨?_, hB⟩
              rw [H1.1 (by decide)]
              rfl
          · skip
            · have hsg := sg8 (by decide)
              go_wp2
              refine ⟨⟨9, by omega, rfl, fun j x hj hltj => ?_, hB⟩, by simp [intOf]⟩
              rcases Nat.lt_or_eq_of_le (Nat.le_of_lt_succ hltj) with h | rfl
              · exact hno j x hj h
              · cases hj; decide
          · skip
            · have hsg := sg9 (by decide)
              go_wp2
              refine ⟨⟨10, by omega, rfl, fun j x hj hltj => ?_, hB⟩, by simp [intOf]⟩
              rcases Nat.lt_or_eq_of_le (Nat.le_of_lt_succ hltj) with h | rfl
              · exact hno j x hj h
              · cases hj; decide
          · skip
            · have hsg := sg10 (by decide)
              go_wp2
              refine ⟨⟨11, by omega, rfl, fun j x hj hltj => ?_, hB⟩, by simp [intOf]⟩
              rcases Nat.lt_or_eq_of_le (Nat.le_of_lt_succ hltj) with h | rfl
              · exact hno j x hj h
              · cases hj; decide
          · skip
            · have hsg := sg11 (by decide)
              go_wp2
              refine ⟨⟨12, by omega, rfl, fun j x hj hltj => ?_, hB⟩, by simp [intOf]⟩
              rcases Nat.lt_or_eq_of_le (Nat.le_of_lt_succ hltj) with h | rfl
              · exact hno j x hj h
              · cases hj; decide
          · skip
            · have hsg := sg12 (by decide)
              go_wp2
              refine ⟨⟨13, by omega, rfl, fun j x hj hltj => ?_, hB⟩, by simp [intOf]⟩
              rcases Nat.lt_or_eq_of_le (Nat.le_of_lt_succ hltj) with h | rfl
              · exact hno j x hj h
              · cases hj; decide
          · skip
            · have hsg := sg13 (by decide)
              go_wp2
              refine ⟨⟨14, by omega, rfl, fun j x hj hltj => ?_, hB⟩, by simp [intOf]⟩
              rcases Nat.lt_or_eq_of_le (Nat.le_of_lt_succ hltj) with h | rfl
              · exact hno j x hj h
              · cases hj; decide
        · obtain rfl : k = 14 := by omega
          have hnone := signs_no hno
          have Hn := Lib.hid (H1.2 hnone)
          clear hno hnone
          go_wp2
          go_ret
          exact ⟨by rw [Hn.out]; rfl, hB⟩
    · obtain rfl : c = 60 := by simpa using q2
      go_enter Tryd.func50, Tryd.ntmps50
      go_wp2
      go_loopw [8] (fun v wr => ∃ k : Nat, k ≤ 14 ∧ v = .int .i64 (k : Int) ∧ (∀ j x, signsL[j]? = some x → j < k → x ≠ 60) ∧ Below w.heap.size w wr) (fun v _ => 14 - (intOf v).toNat)
      case atStart => exact ⟨0, by omega, rfl, fun j x _ h => by omega, Below.refl _ _⟩
      case round =>
        obtain ⟨k, hk, rfl, hno, hB⟩ := hrel
        by_cases hlt14 : k < 14
        · have hk14 : k = 0 ∨ k = 1 ∨ k = 2 ∨ k = 3 ∨ k = 4 ∨ k = 5 ∨ k = 6 ∨ k = 7 ∨ k = 8 ∨ k = 9 ∨ k = 10 ∨ k = 11 ∨ k = 12 ∨ k = 13 := by omega
          clear hlt14 hk
          rcases hk14 with rfl | rfl | rfl | rfl | rfl | rfl | rfl | rfl | rfl | rfl | rfl | rfl | rfl | rfl
          · skip
            · have hsg := sg0 (by decide)
              go_wp2
              refine ⟨⟨1, by omega, rfl, fun j x hj hltj => ?_, hB⟩, by simp [intOf]⟩
              rcases Nat.lt_or_eq_of_le (Nat.le_of_lt_succ hltj) with h | rfl
              · exact hno j x hj h
              · cases hj; decide
          · skip
            · have hsg := sg1 (by decide)
              go_wp2
              refine ⟨⟨2, by omega, rfl, fun j x hj hltj => ?_, hB⟩, by simp [intOf]⟩
              rcases Nat.lt_or_eq_of_le (Nat.le_of_lt_succ hltj) with h | rfl
              · exact hno j x hj h
              · cases hj; decide
          · skip
            · have hsg := sg2 (by decide)
              go_wp2
              refine ⟨⟨3, by omega, rfl, fun j x hj hltj => ?_, hB⟩, by simp [intOf]⟩
              rcases Nat.lt_or_eq_of_le (Nat.le_of_lt_succ hltj) with h | rfl
              · exact hno j x hj h
              · cases hj; decide
          · skip
            · have hsg := sg3 (by decide)
              go_wp2
              refine ⟨⟨4, by omega, rfl, fun j x hj hltj => ?_, hB⟩, by simp [intOf]⟩
              rcases Nat.lt_or_eq_of_le (Nat.le_of_lt_succ hltj) with h | rfl
              · exact hno j x hj h
              · cases hj; decide
          · skip
            · have hsg := sg4 (by decide)
              go_wp2
              refine ⟨⟨5, by omega, rfl, fun j x hj hltj => ?_, hB⟩, by simp [intOf]⟩
              rcases Nat.lt_or_eq_of_le (Nat.le_of_lt_succ hltj) with h | rfl
              · exact hno j x hj h
              · cases hj; decide
          · skip
            · have hsg := sg5 (by decide)
              go_wp2
              refine ⟨⟨6, by omega, rfl, fun j x hj hltj => ?_, hB⟩, by simp [intOf]⟩
              rcases Nat.lt_or_eq_of_le (Nat.le_of_lt_succ hltj) with h | rfl
              · exact hno j x hj h
              · cases hj; decide
          · skip
            · have hsg := sg6 (by decide)
              go_wp2
              refine ⟨⟨7, by omega, rfl, fun j x hj hltj => ?_, hB⟩, by simp [intOf]⟩
              rcases Nat.lt_or_eq_of_le (Nat.le_of_lt_succ hltj) with h | rfl
              · exact hno j x hj h
              · cases hj; decide
          · skip
            · have hsg := sg7 (by decide)
              go_wp2
              refine ⟨⟨8, by omega, rfl, fun j x hj hltj => ?_, hB⟩, by simp [intOf]⟩
              rcases Nat.lt_or_eq_of_le (Nat.le_of_lt_succ hltj) with h | rfl
              · exact hno j x hj h
              · cases hj; decide
          · skip
            · have hsg := sg8 (by decide)
              go_wp2
              refine ⟨⟨9, by omega, rfl, fun j x hj hltj => ?_, hB⟩, by simp [intOf]⟩
              rcases Nat.lt_or_eq_of_le (Nat.le_of_lt_succ hltj) with h | rfl
              · exact hno j x hj h
              · cases hj; decide
          · skip
            · have hsg := sg9 (by decide)
              go_wp2
              refine ⟨⟨10, by omega, rfl, fun j x hj hltj => ?_, hB⟩, by simp [intOf]⟩
              rcases Nat.lt_or_eq_of_le (Nat.le_of_lt_succ hltj) with h | rfl
              · exact hno j x hj h
              · cases hj; decide
          · skip
            · have hsg := sg10 (by decide)
              go_wp2
              refine ⟨⟨11, by omega, rfl, fun j x hj hltj => ?_, hB⟩, by simp [intOf]⟩
              rcases Nat.lt_or_eq_of_le (Nat.le_of_lt_succ hltj) with h | rfl
              · exact hno j x hj h
              · cases hj; decide
          · skip
            · have hsg := sg11 (by decide)
              go_wp2
              go_ret
              refine ⟨?_, hB⟩
              rw [H1.1 (by decide)]
              rfl
          · skip
            · have hsg := sg12 (by decide)
              go_wp2
              refine ⟨⟨13, by omega, rfl, fun j x hj hltj => ?_, hB⟩, by simp [intOf]⟩
              rcases Nat.lt_or_eq_of_le (Nat.le_of_lt_succ hltj) with h | rfl
              · exact hno j x hj h
              · cases hj; decide
          · skip
            · have hsg := sg13 (by decide)
              go_wp2
              refine ⟨⟨14, by omega, rfl, fun j x hj hltj => ?_, hB⟩, by simp [intOf]⟩
              rcases Nat.lt_or_eq_of_le (Nat.le_of_lt_succ hltj) with h | rfl
              · exact hno j x hj h
              · cases hj; decide
        · obtain rfl : k = 14 := by omega
          have hnone := signs_no hno
          have Hn := Lib.hid (H1.2 hnone)
          clear hno hnone
          go_wp2
          go_ret
          exact ⟨by rw [Hn.out]; rfl, hB⟩
    · obtain rfl : c = 61 := by simpa using q3
      go_enter Tryd.func50, Tryd.ntmps50
      go_wp2
      go_loopw [8] (fun v wr => ∃ k : Nat, k ≤ 14 ∧ v = .int .i64 (k : Int) ∧ (∀ j x, signsL[j]? = some x → j < k → x ≠ 61) ∧ Below w.heap.size w wr) (fun v _ => 14 - (intOf v).toNat)
      case atStart => exact ⟨0, by omega, rfl, fun j x _ h => by omega, Below.refl _ _⟩
      case round =>
        obtain ⟨k, hk, rfl, hno, hB⟩ := hrel
        by_cases hlt14 : k < 14
        · have hk14 : k = 0 ∨ k = 1 ∨ k = 2 ∨ k = 3 ∨ k = 4 ∨ k = 5 ∨ k = 6 ∨ k = 7 ∨ k = 8 ∨ k = 9 ∨ k = 10 ∨ k = 11 ∨ k = 12 ∨ k = 13 := by omega
          clear hlt14 hk
          rcases hk14 with rfl | rfl | rfl | rfl | rfl | rfl | rfl | rfl | rfl | rfl | rfl | rfl | rfl | rfl
          · skip
            · have hsg := sg0 (by decide)
              go_wp2
              refine ⟨⟨1, by omega, rfl, fun j x hj hltj => ?_, hB⟩, by simp [intOf]⟩
              rcases Nat.lt_or_eq_of_le (Nat.le_of_lt_succ hltj) with h | rfl
              · exact hno j x hj h
              · cases hj; decide
          · skip
            · have hsg := sg1 (by decide)
              go_wp2
              refine ⟨⟨2, by omega, rfl, fun j x hj hltj => ?_, hB⟩, by simp [intOf]⟩
              rcases Nat.lt_or_eq_of_le (Nat.le_of_lt_succ hltj) with h | rfl
              · exact hno j x hj h
              · cases hj; decide
          · skip
            · have hsg := sg2 (by decide)
              go_wp2
              refine ⟨⟨3, by omega, rfl, fun j x hj hltj => ?_, hB⟩, by simp [intOf]⟩
              rcases Nat.lt_or_eq_of_le (Nat.le_of_lt_succ hltj) with h | rfl
              · exact hno j x hj h
              · cases hj; decide
          · skip
            · have hsg := sg3 (by decide)
              go_wp2
              refine ⟨⟨4, by omega, rfl, fun j x hj hltj => ?_, hB⟩, by simp [intOf]⟩
              rcases Nat.lt_or_eq_of_le (Nat.le_of_lt_succ hltj) with h | rfl
              · exact hno j x hj h
              · cases hj; decide
          · skip
            · have hsg := sg4 (by decide)
              go_wp2
              go_ret
              refine ⟨?_, hB⟩
              rw [H1.1 (by decide)]
              rfl
          · skip
            · have hsg := sg5 (by decide)
              go_wp2
              refine ⟨⟨6, by omega, rfl, fun j x hj hltj => ?_, hB⟩, by simp [intOf]⟩
              rcases Nat.lt_or_eq_of_le (Nat.le_of_lt_succ hltj) with h | rfl
              · exact hno j x hj h
              · cases hj; decide
          · skip
            · have hsg := sg6 (by decide)
              go_wp2
              refine ⟨⟨7, by omega, rfl, fun j x hj hltj => ?_, hB⟩, by simp [intOf]⟩
              rcases Nat.lt_or_eq_of_le (Nat.le_of_lt_succ hltj) with h | rfl
              · exact hno j x hj h
              · cases hj; decide
          · skip
            · have hsg := sg7 (by decide)
              go_wp2
              refine ⟨⟨8, by omega, rfl, fun j x hj hltj => ?_, hB⟩, by simp [intOf]⟩
              rcases Nat.lt_or_eq_of_le (Nat.le_of_lt_succ hltj) with h | rfl
              · exact hno j x hj h
              · cases hj; decide
          · skip
            · have hsg := sg8 (by decide)
              go_wp2
              refine ⟨⟨9, by omega, rfl, fun j x hj hltj => ?_, hB⟩, by simp [intOf]⟩
              rcases Nat.lt_or_eq_of_le (Nat.le_of_lt_succ hltj) with h | rfl
              · exact hno j x hj h
              · cases hj; decide
          · skip
            · have hsg := sg9 (by decide)
              go_wp2
              refine ⟨⟨10, by omega, rfl, fun j x hj hltj => ?_, hB⟩, by simp [intOf]⟩
              rcases Nat.lt_or_eq_of_le (Nat.le_of_lt_succ hltj) with h | rfl
              · exact hno j x hj h
              · cases hj; decide
          · skip
            · have hsg := sg10 (by decide)
              go_wp2
              refine ⟨⟨11, by omega, rfl, fun j x hj hltj => ?_, hB⟩, by simp [intOf]⟩
              rcases Nat.lt_or_eq_of_le (Nat.le_of_lt_succ hltj) with h | rfl
              · exact hno j x hj h
              · cases hj; decide
          · skip
            · have hsg := sg11 (by decide)
              go_wp2
              refine ⟨⟨12, by omega, rfl, fun j x hj hltj => ?_, hB⟩, by simp [intOf]⟩
              rcases Nat.lt_or_eq_of_le (Nat.le_of_lt_succ hltj) with h | rfl
              · exact hno j x hj h
              · cases hj; decide
          · skip
            · have hsg := sg12 (by decide)
              go_wp2
              refine ⟨⟨13, by omega, rfl, fun j x hj hltj => ?_, hB⟩, by simp [intOf]⟩
              rcases Nat.lt_or_eq_of_le (Nat.le_of_lt_succ hltj) with h | rfl
              · exact hno j x hj h
              · cases hj; decide
          · skip
            · have hsg := sg13 (by decide)
              go_wp2
              refine ⟨⟨14, by omega, rfl, fun j x hj hltj => ?_, hB⟩, by simp [intOf]⟩
              rcases Nat.lt_or_eq_of_le (Nat.le_of_lt_succ hltj) with h | rfl
              · exact hno j x hj h
              · cases hj; decide
        · obtain rfl : k = 14 := by omega
          have hnone := signs_no hno
          have Hn := Lib.hid (H1.2 hnone)
          clear hno hnone
          go_wp2
          go_ret
          exact ⟨by rw [Hn.out]; rfl, hB⟩
    · skip
      go_enter Tryd.func50, Tryd.ntmps50
      go_wp2
      go_loopw [8] (fun v wr => ∃ k : Nat, k ≤ 14 ∧ v = .int .i64 (k : Int) ∧ (∀ j x, signsL[j]? = some x → j < k → x ≠ c) ∧ Below w.heap.size w wr) (fun v _ => 14 - (intOf v).toNat)
      case atStart => exact ⟨0, by omega, rfl, fun j x _ h => by omega, Below.refl _ _⟩
      case round =>
        obtain ⟨k, hk, rfl, hno, hB⟩ := hrel
        by_cases hlt14 : k < 14
        · have hk14 : k = 0 ∨ k = 1 ∨ k = 2 ∨ k = 3 ∨ k = 4 ∨ k = 5 ∨ k = 6 ∨ k = 7 ∨ k = 8 ∨ k = 9 ∨ k = 10 ∨ k = 11 ∨ k = 12 ∨ k = 13 := by omega
          clear hlt14 hk
          rcases hk14 with rfl | rfl | rfl | rfl | rfl | rfl | rfl | rfl | rfl | rfl | rfl | rfl | rfl | rfl
          · by_cases hcc : c = 40
            · subst hcc
              have hsg := sg0 (by decide)
              go_wp2
              go_ret
              refine ⟨?_, hB⟩
              rw [H1.1 (by decide)]
              rfl
            · have hc1 : (c == 40) = false := by simpa using hcc
              have hc2 : (40 == c) = false := by simp; omega
              have hsg := sg0 (by decide)
              go_wp2
              refine ⟨⟨1, by omega, rfl, fun j x hj hltj => ?_, hB⟩, by simp [intOf]⟩
              rcases Nat.lt_or_eq_of_le (Nat.le_of_lt_succ hltj) with h | rfl
              · exact hno j x hj h
              · cases hj; omega
          · by_cases hcc : c = 41
            · subst hcc
              have hsg := sg1 (by decide)
              go_wp2
              go_ret
              refine ⟨?_, hB⟩
              rw [H1.1 (by decide)]
              rfl
            · have hc1 : (c == 41) = false := by simpa using hcc
              have hc2 : (41 == c) = false := by simp; omega
              have hsg := sg1 (by decide)
              go_wp2
              refine ⟨⟨2, by omega, rfl, fun j x hj hltj => ?_, hB⟩, by simp [intOf]⟩
              rcases Nat.lt_or_eq_of_le (Nat.le_of_lt_succ hltj) with h | rfl
              · exact hno j x hj h
              · cases hj; omega
          · by_cases hcc : c = 44
            · subst hcc
              have hsg := sg2 (by decide)
              go_wp2
              go_ret
              refine ⟨?_, hB⟩
              rw [H1.1 (by decide)]
              rfl
            · have hc1 : (c == 44) = false := by simpa using hcc
              have hc2 : (44 == c) = false := by simp; omega
              have hsg := sg2 (by decide)
              go_wp2
              refine ⟨⟨3, by omega, rfl, fun j x hj hltj => ?_, hB⟩, by simp [intOf]⟩
              rcases Nat.lt_or_eq_of_le (Nat.le_of_lt_succ hltj) with h | rfl
              · exact hno j x hj h
              · cases hj; omega
          · by_cases hcc : c = 124
            · subst hcc
              have hsg := sg3 (by decide)
              go_wp2
              go_ret
              refine ⟨?_, hB⟩
              rw [H1.1 (by decide)]
              rfl
            · have hc1 : (c == 124) = false := by simpa using hcc
              have hc2 : (124 == c) = false := by simp; omega
              have hsg := sg3 (by decide)
              go_wp2
              refine ⟨⟨4, by omega, rfl, fun j x hj hltj => ?_, hB⟩, by simp [intOf]⟩
              rcases Nat.lt_or_eq_of_le (Nat.le_of_lt_succ hltj) with h | rfl
              · exact hno j x hj h
              · cases hj; omega
          · by_cases hcc : c = 61
            · subst hcc
              have hsg := sg4 (by decide)
              go_wp2
              go_ret
              refine ⟨?_, hB⟩
              rw [H1.1 (by decide)]
              rfl
            · have hc1 : (c == 61) = false := by simpa using hcc
              have hc2 : (61 == c) = false := by simp; omega
              have hsg := sg4 (by decide)
              go_wp2
              refine ⟨⟨5, by omega, rfl, fun j x hj hltj => ?_, hB⟩, by simp [intOf]⟩
              rcases Nat.lt_or_eq_of_le (Nat.le_of_lt_succ hltj) with h | rfl
              · exact hno j x hj h
              · cases hj; omega
          · by_cases hcc : c = 58
            · subst hcc
              have hsg := sg5 (by decide)
              go_wp2
              go_ret
              refine ⟨?_, hB⟩
              rw [H1.1 (by decide)]
              rfl
            · have hc1 : (c == 58) = false := by simpa using hcc
              have hc2 : (58 == c) = false := by simp; omega
              have hsg := sg5 (by decide)
              go_wp2
              refine ⟨⟨6, by omega, rfl, fun j x hj hltj => ?_, hB⟩, by simp [intOf]⟩
              rcases Nat.lt_or_eq_of_le (Nat.le_of_lt_succ hltj) with h | rfl
              · exact hno j x hj h
              · cases hj; omega
          · by_cases hcc : c = 43
            · subst hcc
              have hsg := sg6 (by decide)
              go_wp2
              go_ret
              refine ⟨?_, hB⟩
              rw [H1.1 (by decide)]
              rfl
            · have hc1 : (c == 43) = false := by simpa using hcc
              have hc2 : (43 == c) = false := by simp; omega
              have hsg := sg6 (by decide)
              go_wp2
              refine ⟨⟨7, by omega, rfl, fun j x hj hltj => ?_, hB⟩, by simp [intOf]⟩
              rcases Nat.lt_or_eq_of_le (Nat.le_of_lt_succ hltj) with h | rfl
              · exact hno j x hj h
              · cases hj; omega
          · by_cases hcc : c = 45
            · subst hcc
              have hsg := sg7 (by decide)
              go_wp2
              go_ret
              refine ⟨?_, hB⟩
              rw [H1.1 (by decide)]
              rfl
            · have hc1 : (c == 45) = false := by simpa using hcc
              have hc2 : (45 == c) = false := by simp; omega
              have hsg := sg7 (by decide)
              go_wp2
              refine ⟨⟨8, by omega, rfl, fun j x hj hltj => ?_, hB⟩, by simp [intOf]⟩
              rcases Nat.lt_or_eq_of_le (Nat.le_of_lt_succ hltj) with h | rfl
              · exact hno j x hj h
              · cases hj; omega
          · by_cases hcc : c = 42
            · subst hcc
              have hsg := sg8 (by decide)
              go_wp2
              go_ret
              refine ⟨?_, hB⟩
              rw [H1.1 (by decide)]
              rfl
            · have hc1 : (c == 42) = false := by simpa using hcc
              have hc2 : (42 == c) = false := by simp; omega
              have hsg := sg8 (by decide)
              go_wp2
              refine ⟨⟨9, by omega, rfl, fun j x hj hltj => ?_, hB⟩, by simp [intOf]⟩
              rcases Nat.lt_or_eq_of_le (Nat.le_of_lt_succ hltj) with h | rfl
              · exact hno j x hj h
              · cases hj; omega
          · by_cases hcc : c = 47
            · subst hcc
              have hsg := sg9 (by decide)
              go_wp2
              go_ret
              refine ⟨?_, hB⟩
              rw [H1.1 (by decide)]
              rfl
            · have hc1 : (c == 47) = false := by simpa using hcc
              have hc2 : (47 == c) = false := by simp; omega
              have hsg := sg9 (by decide)
              go_wp2
              refine ⟨⟨10, by omega, rfl, fun j x hj hltj => ?_, hB⟩, by simp [intOf]⟩
              rcases Nat.lt_or_eq_of_le (Nat.le_of_lt_succ hltj) with h | rfl
              · exact hno j x hj h
              · cases hj; omega
          · by_cases hcc : c = 37
            · subst hcc
              have hsg := sg10 (by decide)
              go_wp2
              go_ret
              refine ⟨?_, hB⟩
              rw [H1.1 (by decide)]
              rfl
            · have hc1 : (c == 37) = false := by simpa using hcc
              have hc2 : (37 == c) = false := by simp; omega
              have hsg := sg10 (by decide)
              go_wp2
              refine ⟨⟨11, by omega, rfl, fun j x hj hltj => ?_, hB⟩, by simp [intOf]⟩
              rcases Nat.lt_or_eq_of_le (Nat.le_of_lt_succ hltj) with h | rfl
              · exact hno j x hj h
              · cases hj; omega
          · by_cases hcc : c = 60
            · subst hcc
              have hsg := sg11 (by decide)
              go_wp2
              go_ret
              refine ⟨?_, hB⟩
              rw [H1.1 (by decide)]
              rfl
            · have hc1 : (c == 60) = false := by simpa using hcc
              have hc2 : (60 == c) = false := by simp; omega
              have hsg := sg11 (by decide)
              go_wp2
              refine ⟨⟨12, by omega, rfl, fun j x hj hltj => ?_, hB⟩, by simp [intOf]⟩
              rcases Nat.lt_or_eq_of_le (Nat.le_of_lt_succ hltj) with h | rfl
              · exact hno j x hj h
              · cases hj; omega
          · by_cases hcc : c = 95
            · subst hcc
              have hsg := sg12 (by decide)
              go_wp2
              go_ret
              refine ⟨?_, hB⟩
              rw [H1.1 (by decide)]
              rfl
            · have hc1 : (c == 95) = false := by simpa using hcc
              have hc2 : (95 == c) = false := by simp; omega
              have hsg := sg12 (by decide)
              go_wp2
              refine ⟨⟨13, by omega, rfl, fun j x hj hltj => ?_, hB⟩, by simp [intOf]⟩
              rcases Nat.lt_or_eq_of_le (Nat.le_of_lt_succ hltj) with h | rfl
              · exact hno j x hj h
              · cases hj; omega
          · by_cases hcc : c = 126
            · subst hcc
              have hsg := sg13 (by decide)
              go_wp2
              go_ret
              refine ⟨?_, hB⟩
              rw [H1.1 (by decide)]
              rfl
            · have hc1 : (c == 126) = false := by simpa using hcc
              have hc2 : (126 == c) = false := by simp; omega
              have hsg := sg13 (by decide)
              go_wp2
              refine ⟨⟨14, by omega, rfl, fun j x hj hltj => ?_, hB⟩, by simp [intOf]⟩
              rcases Nat.lt_or_eq_of_le (Nat.le_of_lt_succ hltj) with h | rfl
              · exact hno j x hj h
              · cases hj; omega
        · obtain rfl : k = 14 := by omega
          have hnone := signs_no hno
          have Hn := Lib.hid (H1.2 hnone)
          clear hno hnone
          go_wp2
          go_ret
          exact ⟨by rw [Hn.out]; rfl, hB⟩
  · have hge' : (n : Int) ≤ (i : Int) + 1 := by omega
    clear h
    have hsw : ((c == 45) = true ∧ ((0 : Int) == 62) = false ∧ (c == 60) = false ∧ (c == 61) = false) ∨ ((c == 45) = false ∧ (c == 60) = true ∧ ((0 : Int) == 61) = false ∧ (c == 61) = false) ∨ ((c == 45) = false ∧ (c == 60) = false ∧ (c == 61) = true ∧ ((0 : Int) == 61) = false) ∨ ((c == 45) = false ∧ (c == 60) = false ∧ (c == 61) = false) := by
      have := h1
      by_cases a : c = 45
      · left; simp; omega
      by_cases b : c = 60
      · right; left; simp; omega
      by_cases b : c = 61
      · right; right; left; simp; omega
      · right; right; right; simp; omega
    clear h1
    rcases hsw with ⟨q1, q2, q3, q4⟩ | ⟨q1, q2, q3, q4⟩ | ⟨q1, q2, q3, q4⟩ | ⟨q1, q2, q3⟩
    · obtain rfl : c = 45 := by simpa using q1
      go_enter Tryd.func50, Tryd.ntmps50
      go_wp2
      go_loopw [8] (fun v wr => ∃ k : Nat, k ≤ 14 ∧ v = .int .i64 (k : Int) ∧ (∀ j x, signsL[j]? = some x → j < k → x ≠ 45) ∧ Below w.heap.size w wr) (fun v _ => 14 - (intOf v).toNat)
      case atStart => exact ⟨0, by omega, rfl, fun j x _ h => by omega, Below.refl _ _⟩
      case round =>
        obtain ⟨k, hk, rfl, hno, hB⟩ := hrel
        by_cases hlt14 : k < 14
        · have hk14 : k = 0 ∨ k = 1 ∨ k = 2 ∨ k = 3 ∨ k = 4 ∨ k = 5 ∨ k = 6 ∨ k = 7 ∨ k = 8 ∨ k = 9 ∨ k = 10 ∨ k = 11 ∨ k = 12 ∨ k = 13 := by omega
          clear hlt14 hk
          rcases hk14 with rfl | rfl | rfl | rfl | rfl | rfl | rfl | rfl | rfl | rfl | rfl | rfl | rfl | rfl
          · skip
            · have hsg := sg0 (by decide)
              go_wp2
              refine ⟨⟨1, by omega, rfl, fun j x hj hltj => ?_, hB⟩, by simp [intOf]⟩
              rcases Nat.lt_or_eq_of_le (Nat.le_of_lt_succ hltj) with h | rfl
              · exact hno j x hj h
              · cases hj; decide
          · skip
            · have hsg := sg1 (by decide)
              go_wp2
              refine ⟨⟨2, by omega, rfl, fun j x hj hltj => ?_, hB⟩, by simp [intOf]⟩
              rcases Nat.lt_or_eq_of_le (Nat.le_of_lt_succ hltj) with h | rfl
              · exact hno j x hj h
              · cases hj; decide
          · skip
            · have hsg := sg2 (by decide)
              go_wp2
              refine ⟨⟨3, by omega, rfl, fun j x hj hltj => ?_, hB⟩, by simp [intOf]⟩
              rcases Nat.lt_or_eq_of_le (Nat.le_of_lt_succ hltj) with h | rfl
              · exact hno j x hj h
              · cases hj; decide
          · skip
            · have hsg := sg3 (by decide)
              go_wp2
              refine ⟨⟨4, by omega, rfl, fun j x hj hltj => ?_, hB⟩, by simp [intOf]⟩
              rcases Nat.lt_or_eq_of_le (Nat.le_of_lt_succ hltj) with h | rfl
              · exact hno j x hj h
              · cases hj; decide
          · skip
            · have hsg := sg4 (by decide)
              go_wp2
              refine ⟨⟨5, by omega, rfl, fun j x hj hltj => ?_, hB⟩, by simp [intOf]⟩
              rcases Nat.lt_or_eq_of_le (Nat.le_of_lt_succ hltj) with h | rfl
              · exact hno j x hj h
              · cases hj; decide
          · skip
            · have hsg := sg5 (by decide)
              go_wp2
              refine ⟨⟨6, by omega, rfl, fun j x hj hltj => ?_, hB⟩, by simp [intOf]⟩
              rcases Nat.lt_or_eq_of_le (Nat.le_of_lt_succ hltj) with h | rfl
              · exact hno j x hj h
              · cases hj; decide
          · skip
            · have hsg := sg6 (by decide)
              go_wp2
              refine ⟨⟨7, by omega, rfl, fun j x hj hltj => ?_, hB⟩, by simp [intOf]⟩
              rcases Nat.lt_or_eq_of_le (Nat.le_of_lt_succ hltj) with h | rfl
              · exact hno j x hj h
              · cases hj; decide
          · skip
            · have hsg := sg7 (by decide)
              go_wp2
              go_ret
              refine ⟨?_, hB⟩
              rw [H1.1 (by decide)]
              rfl
          · skip
            · have hsg := sg8 (by decide)
              go_wp2
              refine ⟨⟨9, by omega, rfl, fun j x hj hltj => ?_, hB⟩, by simp [intOf]⟩
              rcases Nat.lt_or_eq_of_le (Nat.le_of_lt_succ hltj) with h | rfl
              · exact hno j x hj h
              · cases hj; decide
          · skip
            · have hsg := sg9 (by decide)
              go_wp2
              refine ⟨⟨10, by omega, rfl, fun j x hj hltj => ?_, hB⟩, by simp [intOf]⟩
              rcases Nat.lt_or_eq_of_le (Nat.le_of_lt_succ hltj) with h | rfl
              · exact hno j x hj h
              · cases hj; decide
          · skip
            · have hsg := sg10 (by decide)
              go_wp2
              refine ⟨⟨11, by omega, rfl, fun j x hj hltj => ?_, hB⟩, by simp [intOf]⟩
              rcases Nat.lt_or_eq_of_le (Nat.le_of_lt_succ hltj) with h | rfl
              · exact hno j x hj h
              · cases hj; decide
          · skip
            · have hsg := sg11 (by decide)
              go_wp2
              refine ⟨⟨12, by omega, rfl, fun j x hj hltj => ?_, hB⟩, by simp [intOf]⟩
              rcases Nat.lt_or_eq_of_le (Nat.le_of_lt_succ hltj) with h | rfl
              · exact hno j x hj h
              · cases hj; decide
          · skip
            · have hsg := sg12 (by decide)
              go_wp2
              refine ⟨⟨13, by omega, rfl, fun j x hj hltj => ?_, hB⟩, by simp [intOf]⟩
              rcases Nat.lt_or_eq_of_le (Nat.le_of_lt_succ hltj) with h | rfl
              · exact hno j x hj h
              · cases hj; decide
          · skip
            · have hsg := sg13 (by decide)
              go_wp2
              refine ⟨⟨14, by omega, rfl, fun j x hj hltj => ?_, hB⟩, by simp [intOf]⟩
              rcases Nat.lt_or_eq_of_le (Nat.le_of_lt_succ hltj) with h | rfl
              · exact hno j x hj h
              · cases hj; decide
        · obtain rfl : k = 14 := by omega
          have hnone := signs_no hno
          have Hn := Lib.hid (H1.2 hnone)
          clear hno hnone
          go_wp2
          go_ret
          exact ⟨by rw [Hn.out]; rfl, hB⟩
    · obtain rfl : c = 60 := by simpa using q2
      go_enter Tryd.func50, Tryd.ntmps50
      go_wp2
      go_loopw [8] (fun v wr => ∃ k : Nat, k ≤ 14 ∧ v = .int .i64 (k : Int) ∧ (∀ j x, signsL[j]? = some x → j < k → x ≠ 60) ∧ Below w.heap.size w wr) (fun v _ => 14 - (intOf v).toNat)
      case atStart => exact ⟨0, by omega, rfl, fun j x _ h => by omega, Below.refl _ _⟩
      case round =>
        obtain ⟨k, hk, rfl, hno, hB⟩ := hrel
        by_cases hlt14 : k < 14
        · have hk14 : k = 0 ∨ k = 1 ∨ k = 2 ∨ k = 3 ∨ k = 4 ∨ k = 5 ∨ k = 6 ∨ k = 7 ∨ k = 8 ∨ k = 9 ∨ k = 10 ∨ k = 11 ∨ k = 12 ∨ k = 13 := by omega
          clear hlt14 hk
          rcases hk14 with rfl | rfl | rfl | rfl | rfl | rfl | rfl | rfl | rfl | rfl | rfl | rfl | rfl | rfl
          · skip
            · have hsg := sg0 (by decide)
              go_wp2
              refine ⟨⟨1, by omega, rfl, fun j x hj hltj => ?_, hB⟩, by simp [intOf]⟩
              rcases Nat.lt_or_eq_of_le (Nat.le_of_lt_succ hltj) with h | rfl
              · exact hno j x hj h
              · cases hj; decide
          · skip
            · have hsg := sg1 (by decide)
              go_wp2
              refine ⟨⟨2, by omega, rfl, fun j x hj hltj => ?_, hB⟩, by simp [intOf]⟩
              rcases Nat.lt_or_eq_of_le (Nat.le_of_lt_succ hltj) with h | rfl
              · exact hno j x hj h
              · cases hj; decide
          · skip
            · have hsg := sg2 (by decide)
              go_wp2
              refine ⟨⟨3, by omega, rfl, fun j x hj hltj => ?_, hB⟩, by simp [intOf]⟩
              rcases Nat.lt_or_eq_of_le (Nat.le_of_lt_succ hltj) with h | rfl
              · exact hno j x hj h
              · cases hj; decide
          · skip
            · have hsg := sg3 (by decide)
              go_wp2
              refine ⟨⟨4, by omega, rfl, fun j x hj hltj => ?_, hB⟩, by simp [intOf]⟩
              rcases Nat.lt_or_eq_of_le (Nat.le_of_lt_succ hltj) with h | rfl
              · exact hno j x hj h
              · cases hj; decide
          · skip
            · have hsg := sg4 (by decide)
              go_wp2
              refine ⟨⟨5, by omega, rfl, fun j x hj hltj => ?_, hB⟩, by simp [intOf]⟩
              rcases Nat.lt_or_eq_of_le (Nat.le_of_lt_succ hltj) with h | rfl
              · exact hno j x hj h
              · cases hj; decide
          · skip
            · have hsg := sg5 (by decide)
              go_wp2
              refine ⟨⟨6, by omega, rfl, fun j x hj hltj => ?_, hB⟩, by simp [intOf]⟩
              rcases Nat.lt_or_eq_of_le (Nat.le_of_lt_succ hltj) with h | rfl
              · exact hno j x hj h
              · cases hj; decide
          · skip
            · have hsg := sg6 (by decide)
              go_wp2
              refine ⟨⟨7, by omega, rfl, fun j x hj hltj => ?_, hB⟩, by simp [intOf]⟩
              rcases Nat.lt_or_eq_of_le (Nat.le_of_lt_succ hltj) with h | rfl
              · exact hno j x hj h
              · cases hj; decide
          · skip
            · have hsg := sg7 (by decide)
              go_wp2
              refine ⟨⟨8, by omega, rfl, fun j x hj hltj => ?_, hB⟩, by simp [intOf]⟩
              rcases Nat.lt_or_eq_of_le (Nat.le_of_lt_succ hltj) with h | rfl
              · exact hno j x hj h
              · cases hj; decide
          · skip
            · have hsg := sg8 (by decide)
              go_wp2
              refine ⟨⟨9, by omega, rfl, fun j x hj hltj => ?_, hB⟩, by simp [intOf]⟩
              rcases Nat.lt_or_eq_of_le (Nat.le_of_lt_succ hltj) with h | rfl
              · exact hno j x hj h
              · cases hj; decide
          · skip
            · have hsg := sg9 (by decide)
              go_wp2
              refine ⟨⟨10, by omega, rfl, fun j x hj hltj => ?_, hB⟩, by simp [intOf]⟩
              rcases Nat.lt_or_eq_of_le (Nat.le_of_lt_succ hltj) with h | rfl
              · exact hno j x hj h
              · cases hj; decide
          · skip
            · have hsg := sg10 (by decide)
              go_wp2
              refine ⟨⟨11, by omega, rfl, fun j x hj hltj => ?_, hB⟩, by simp [intOf]⟩
              rcases Nat.lt_or_eq_of_le (Nat.le_of_lt_succ hltj) with h | rfl
              · exact hno j x hj h
              · cases hj; decide
          · skip
            · have hsg := sg11 (by decide)
              go_wp2
              go_ret
              refine ⟨?_, hB⟩
              rw [H1.1 (by decide)]
              rfl
          · skip
            · have hsg := sg12 (by decide)
              go_wp2
              refine ⟨⟨13, by omega, rfl, fun j x hj hltj => ?_, hB⟩, by simp [intOf]⟩
              rcases Nat.lt_or_eq_of_le (Nat.le_of_lt_succ hltj) with h | rfl
              · exact hno j x hj h
              · cases hj; decide
          · skip
            · have hsg := sg13 (by decide)
              go_wp2
              refine ⟨⟨14, by omega, rfl, fun j x hj hltj => ?_, hB⟩, by simp [intOf]⟩
              rcases Nat.lt_or_eq_of_le (Nat.le_of_lt_succ hltj) with h | rfl
              · exact hno j x hj h
              · cases hj; decide
        · obtain rfl : k = 14 := by omega
          have hnone := signs_no hno
          have Hn := Lib.hid (H1.2 hnone)
          clear hno hnone
          go_wp2
          go_ret
          exact ⟨by rw [Hn.out]; rfl, hB⟩
    · obtain rfl : c = 61 := by simpa using q3
      go_enter Tryd.func50, Tryd.ntmps50
      go_wp2
      go_loopw [8] (fun v wr => ∃ k : Nat, k ≤ 14 ∧ v = .int .i64 (k : Int) ∧ (∀ j x, signsL[j]? = some x → j < k → x ≠ 61) ∧ Below w.heap.size w wr) (fun v _ => 14 - (intOf v).toNat)
      case atStart => exact ⟨0, by omega, rfl, fun j x _ h => by omega, Below.refl _ _⟩
      case round =>
        obtain ⟨k, hk, rfl, hno, hB⟩ := hrel
        by_cases hlt14 : k < 14
        · have hk14 : k = 0 ∨ k = 1 ∨ k = 2 ∨ k = 3 ∨ k = 4 ∨ k = 5 ∨ k = 6 ∨ k = 7 ∨ k = 8 ∨ k = 9 ∨ k = 10 ∨ k = 11 ∨ k = 12 ∨ k = 13 := by omega
          clear hlt14 hk
          rcases hk14 with rfl | rfl | rfl | rfl | rfl | rfl | rfl | rfl | rfl | rfl | rfl | rfl | rfl | rfl
          · skip
            · have hsg := sg0 (by decide)
              go_wp2
              refine ⟨⟨1, by omega, rfl, fun j x hj hltj => ?_, hB⟩, by simp [intOf]⟩
              rcases Nat.lt_or_eq_of_le (Nat.le_of_lt_succ hltj) with h | rfl
              · exact hno j x hj h
              · cases hj; decide
          · skip
            · have hsg := sg1 (by decide)
              go_wp2
              refine ⟨⟨2, by omega, rfl, fun j x hj hltj => ?_, hB⟩, by simp [intOf]⟩
              rcases Nat.lt_or_eq_of_le (Nat.le_of_lt_succ hltj) with h | rfl
              · exact hno j x hj h
              · cases hj; decide
          · skip
            · have hsg := sg2 (by decide)
              go_wp2
              refine ⟨⟨3, by omega, rfl, fun j x hj hltj => ?_, hB⟩, by simp [intOf]⟩
              rcases Nat.lt_or_eq_of_le (Nat.le_of_lt_succ hltj) with h | rfl
              · exact hno j x hj h
              · cases hj; decide
          · skip
            · have hsg := sg3 (by decide)
              go_wp2
              refine ⟨⟨4, by omega, rfl, fun j x hj hltj => ?_, hB⟩, by simp [intOf]⟩
              rcases Nat.lt_or_eq_of_le (Nat.le_of_lt_succ hltj) with h | rfl
              · exact hno j x hj h
              · cases hj; decide
          · skip
            · have hsg := sg4 (by decide)
              go_wp2
              go_ret
              refine ⟨?_, hB⟩
              rw [H1.1 (by decide)]
              rfl
          · skip
            · have hsg := sg5 (by decide)
              go_wp2
              refine ⟨⟨6, by omega, rfl, fun j x hj hltj => ?_, hB⟩, by simp [intOf]⟩
              rcases Nat.lt_or_eq_of_le (Nat.le_of_lt_succ hltj) with h | rfl
              · exact hno j x hj h
              · cases hj; decide
          · skip
            · have hsg := sg6 (by decide)
              go_wp2
              refine ⟨⟨7, by omega, rfl, fun j x hj hltj => ?_, hB⟩, by simp [intOf]⟩
              rcases Nat.lt_or_eq_of_le (Nat.le_of_lt_succ hltj) with h | rfl
              · exact hno j x hj h
              · cases hj; decide
          · skip
            · have hsg := sg7 (by decide)
              go_wp2
              refine ⟨⟨8, by omega, rfl, fun j x hj hltj => ?_, hB⟩, by simp [intOf]⟩
              rcases Nat.lt_or_eq_of_le (Nat.le_of_lt_succ hltj) with h | rfl
              · exact hno j x hj h
              · cases hj; decide
          · skip
            · have hsg := sg8 (by decide)
              go_wp2
              refine ⟨⟨9, by omega, rfl, fun j x hj hltj => ?_, hB⟩, by simp [intOf]⟩
              rcases Nat.lt_or_eq_of_le (Nat.le_of_lt_succ hltj) with h | rfl
              · exact hno j x hj h
              · cases hj; decide
          · skip
            · have hsg := sg9 (by decide)
              go_wp2
              refine ⟨⟨10, by omega, rfl, fun j x hj hltj => ?_, hB⟩, by simp [intOf]⟩
              rcases Nat.lt_or_eq_of_le (Nat.le_of_lt_succ hltj) with h | rfl
              · exact hno j x hj h
              · cases hj; decide
          · skip
            · have hsg := sg10 (by decide)
              go_wp2
              refine ⟨⟨11, by omega, rfl, fun j x hj hltj => ?_, hB⟩, by simp [intOf]⟩
              rcases Nat.lt_or_eq_of_le (Nat.le_of_lt_succ hltj) with h | rfl
              · exact hno j x hj h
              · cases hj; decide
          · skip
            · have hsg := sg11 (by decide)
              go_wp2
              refine ⟨⟨12, by omega, rfl, fun j x hj hltj => ?_, hB⟩, by simp [intOf]⟩
              rcases Nat.lt_or_eq_of_le (Nat.le_of_lt_succ hltj) with h | rfl
              · exact hno j x hj h
              · cases hj; decide
          · skip
            · have hsg := sg12 (by decide)
              go_wp2
              refine ⟨⟨13, by omega, rfl, fun j x hj hltj => ?_, hB⟩, by simp [intOf]⟩
              rcases Nat.lt_or_eq_of_le (Nat.le_of_lt_succ hltj) with h | rfl
              · exact hno j x hj h
              · cases hj; decide
          · skip
            · have hsg := sg13 (by decide)
              go_wp2
              refine ⟨⟨14, by omega, rfl, fun j x hj hltj => ?_, hB⟩, by simp [intOf]⟩
              rcases Nat.lt_or_eq_of_le (Nat.le_of_lt_succ hltj) with h | rfl
              · exact hno j x hj h
              · cases hj; decide
        · obtain rfl : k = 14 := by omega
          have hnone := signs_no hno
          have Hn := Lib.hid (H1.2 hnone)
          clear hno hnone
          go_wp2
          go_ret
          exact ⟨by rw [Hn.out]; rfl, hB⟩
    · skip
      go_enter Tryd.func50, Tryd.ntmps50
      go_wp2
      go_loopw [8] (fun v wr => ∃ k : Nat, k ≤ 14 ∧ v = .int .i64 (k : Int) ∧ (∀ j x, signsL[j]? = some x → j < k → x ≠ c) ∧ Below w.heap.size w wr) (fun v _ => 14 - (intOf v).toNat)
      case atStart => exact ⟨0, by omega, rfl, fun j x _ h => by omega, Below.refl _ _⟩
      case round =>
        obtain ⟨k, hk, rfl, hno, hB⟩ := hrel
        by_cases hlt14 : k < 14
        · have hk14 : k = 0 ∨ k = 1 ∨ k = 2 ∨ k = 3 ∨ k = 4 ∨ k = 5 ∨ k = 6 ∨ k = 7 ∨ k = 8 ∨ k = 9 ∨ k = 10 ∨ k = 11 ∨ k = 12 ∨ k = 13 := by omega
          clear hlt14 hk
          rcases hk14 with rfl | rfl | rfl | rfl | rfl | rfl | rfl | rfl | rfl | rfl | rfl | rfl | rfl | rfl
          · by_cases hcc : c = 40
            · subst hcc
              have hsg := sg0 (by decide)
              go_wp2
              go_ret
              refine ⟨?_, hB⟩
              rw [H1.1 (by decide)]
              rfl
            · have hc1 : (c == 40) = false := by simpa using hcc
              have hc2 : (40 == c) = false := by simp; omega
              have hsg := sg0 (by decide)
              go_wp2
              refine ⟨⟨1, by omega, rfl, fun j x hj hltj => ?_, hB⟩, by simp [intOf]⟩
              rcases Nat.lt_or_eq_of_le (Nat.le_of_lt_succ hltj) with h | rfl
              · exact hno j x hj h
              · cases hj; omega
          · by_cases hcc : c = 41
            · subst hcc
              have hsg := sg1 (by decide)
              go_wp2
              go_ret
              refine ⟨?_, hB⟩
              rw [H1.1 (by decide)]
              rfl
            · have hc1 : (c == 41) = false := by simpa using hcc
              have hc2 : (41 == c) = false := by simp; omega
              have hsg := sg1 (by decide)
              go_wp2
              refine ⟨⟨2, by omega, rfl, fun j x hj hltj => ?_, hB⟩, by simp [intOf]⟩
              rcases Nat.lt_or_eq_of_le (Nat.le_of_lt_succ hltj) with h | rfl
              · exact hno j x hj h
              · cases hj; omega
          · by_cases hcc : c = 44
            · subst hcc
              have hsg := sg2 (by decide)
              go_wp2
              go_ret
              refine ⟨?_, hB⟩
              rw [H1.1 (by decide)]
              rfl
            · have hc1 : (c == 44) = false := by simpa using hcc
              have hc2 : (44 == c) = false := by simp; omega
              have hsg := sg2 (by decide)
              go_wp2
              refine ⟨⟨3, by omega, rfl, fun j x hj hltj => ?_, hB⟩, by simp [intOf]⟩
              rcases Nat.lt_or_eq_of_le (Nat.le_of_lt_succ hltj) with h | rfl
              · exact hno j x hj h
              · cases hj; omega
          · by_cases hcc : c = 124
            · subst hcc
              have hsg := sg3 (by decide)
              go_wp2
              go_ret
              refine ⟨?_, hB⟩
              rw [H1.1 (by decide)]
              rfl
            · have hc1 : (c == 124) = false := by simpa using hcc
              have hc2 : (124 == c) = false := by simp; omega
              have hsg := sg3 (by decide)
              go_wp2
              refine ⟨⟨4, by omega, rfl, fun j x hj hltj => ?_, hB⟩, by simp [intOf]⟩
              rcases Nat.lt_or_eq_of_le (Nat.le_of_lt_succ hltj) with h | rfl
              · exact hno j x hj h
              · cases hj; omega
          · by_cases hcc : c = 61
            · subst hcc
              have hsg := sg4 (by decide)
              go_wp2
              go_ret
              refine ⟨?_, hB⟩
              rw [H1.1 (by decide)]
              rfl
            · have hc1 : (c == 61) = false := by simpa using hcc
              have hc2 : (61 == c) = false := by simp; omega
              have hsg := sg4 (by decide)
              go_wp2
              refine ⟨⟨5, by omega, rfl, fun j x hj hltj => ?_, hB⟩, by simp [intOf]⟩
              rcases Nat.lt_or_eq_of_le (Nat.le_of_lt_succ hltj) with h | rfl
              · exact hno j x hj h
              · cases hj; omega
          · by_cases hcc : c = 58
            · subst hcc
              have hsg := sg5 (by decide)
              go_wp2
              go_ret
              refine ⟨?_, hB⟩
              rw [H1.1 (by decide)]
              rfl
            · have hc1 : (c == 58) = false := by simpa using hcc
              have hc2 : (58 == c) = false := by simp; omega
              have hsg := sg5 (by decide)
              go_wp2
              refine ⟨⟨6, by omega, rfl, fun j x hj hltj => ?_, hB⟩, by simp [intOf]⟩
              rcases Nat.lt_or_eq_of_le (Nat.le_of_lt_succ hltj) with h | rfl
              · exact hno j x hj h
              · cases hj; omega
          · by_cases hcc : c = 43
            · subst hcc
              have hsg := sg6 (by decide)
              go_wp2
              go_ret
              refine ⟨?_, hB⟩
              rw [H1.1 (by decide)]
              rfl
            · have hc1 : (c == 43) = false := by simpa using hcc
              have hc2 : (43 == c) = false := by simp; omega
              have hsg := sg6 (by decide)
              go_wp2
              refine ⟨⟨7, by omega, rfl, fun j x hj hltj => ?_, hB⟩, by simp [intOf]⟩
              rcases Nat.lt_or_eq_of_le (Nat.le_of_lt_succ hltj) with h | rfl
              · exact hno j x hj h
              · cases hj; omega
          · by_cases hcc : c = 45
            · subst hcc
              have hsg := sg7 (by decide)
              go_wp2
              go_ret
              refine ⟨?_, hB⟩
              rw [H1.1 (by decide)]
              rfl
            · have hc1 : (c == 45) = false := by simpa using hcc
              have hc2 : (45 == c) = false := by simp; omega
              have hsg := sg7 (by decide)
              go_wp2
              refine ⟨⟨8, by omega, rfl, fun j x hj hltj => ?_, hB⟩, by simp [intOf]⟩
              rcases Nat.lt_or_eq_of_le (Nat.le_of_lt_succ hltj) with h | rfl
              · exact hno j x hj h
              · cases hj; omega
          · by_cases hcc : c = 42
            · subst hcc
              have hsg := sg8 (by decide)
              go_wp2
              go_ret
              refine ⟨?_, hB⟩
              rw [H1.1 (by decide)]
              rfl
            · have hc1 : (c == 42) = false := by simpa using hcc
              have hc2 : (42 == c) = false := by simp; omega
              have hsg := sg8 (by decide)
              go_wp2
              refine ⟨⟨9, by omega, rfl, fun j x hj hltj => ?_, hB⟩, by simp [intOf]⟩
              rcases Nat.lt_or_eq_of_le (Nat.le_of_lt_succ hltj) with h | rfl
              · exact hno j x hj h
              · cases hj; omega
          · by_cases hcc : c = 47
            · subst hcc
              have hsg := sg9 (by decide)
              go_wp2
              go_ret
              refine ⟨?_, hB⟩
              rw [H1.1 (by decide)]
              rfl
            · have hc1 : (c == 47) = false := by simpa using hcc
              have hc2 : (47 == c) = false := by simp; omega
              have hsg := sg9 (by decide)
              go_wp2
              refine ⟨⟨10, by omega, rfl, fun j x hj hltj => ?_, hB⟩, by simp [intOf]⟩
              rcases Nat.lt_or_eq_of_le (Nat.le_of_lt_succ hltj) with h | rfl
              · exact hno j x hj h
              · cases hj; omega
          · by_cases hcc : c = 37
            · subst hcc
              have hsg := sg10 (by decide)
              go_wp2
              go_ret
              refine ⟨?_, hB⟩
              rw [H1.1 (by decide)]
              rfl
            · have hc1 : (c == 37) = false := by simpa using hcc
              have hc2 : (37 == c) = false := by simp; omega
              have hsg := sg10 (by decide)
              go_wp2
              refine ⟨⟨11, by omega, rfl, fun j x hj hltj => ?_, hB⟩, by simp [intOf]⟩
              rcases Nat.lt_or_eq_of_le (Nat.le_of_lt_succ hltj) with h | rfl
              · exact hno j x hj h
              · cases hj; omega
          · by_cases hcc : c = 60
            · subst hcc
              have hsg := sg11 (by decide)
              go_wp2
              go_ret
              refine ⟨?_, hB⟩
              rw [H1.1 (by decide)]
              rfl
            · have hc1 : (c == 60) = false := by simpa using hcc
              have hc2 : (60 == c) = false := by simp; omega
              have hsg := sg11 (by decide)
              go_wp2
              refine ⟨⟨12, by omega, rfl, fun j x hj hltj => ?_, hB⟩, by simp [intOf]⟩
              rcases Nat.lt_or_eq_of_le (Nat.le_of_lt_succ hltj) with h | rfl
              · exact hno j x hj h
              · cases hj; omega
          · by_cases hcc : c = 95
            · subst hcc
              have hsg := sg12 (by decide)
              go_wp2
              go_ret
              refine ⟨?_, hB⟩
              rw [H1.1 (by decide)]
              rfl
            · have hc1 : (c == 95) = false := by simpa using hcc
              have hc2 : (95 == c) = false := by simp; omega
              have hsg := sg12 (by decide)
              go_wp2
              refine ⟨⟨13, by omega, rfl, fun j x hj hltj => ?_, hB⟩, by simp [intOf]⟩
              rcases Nat.lt_or_eq_of_le (Nat.le_of_lt_succ hltj) with h | rfl
              · exact hno j x hj h
              · cases hj; omega
          · by_cases hcc : c = 126
            · subst hcc
              have hsg := sg13 (by decide)
              go_wp2
              go_ret
              refine ⟨?_, hB⟩
              rw [H1.1 (by decide)]
              rfl
            · have hc1 : (c == 126) = false := by simpa using hcc
              have hc2 : (126 == c) = false := by simp; omega
              have hsg := sg13 (by decide)
              go_wp2
              refine ⟨⟨14, by omega, rfl, fun j x hj hltj => ?_, hB⟩, by simp [intOf]⟩
              rcases Nat.lt_or_eq_of_le (Nat.le_of_lt_succ hltj) with h | rfl
              · exact hno j x hj h
              · cases hj; omega
        · obtain rfl : k = 14 := by omega
          have hnone := signs_no hno
          have Hn := Lib.hid (H1.2 hnone)
          clear hno hnone
          go_wp2
          go_ret
          exact ⟨by rw [Hn.out]; rfl, hB⟩
set_option maxRecDepth 100000 in
set_option maxHeartbeats 1000000 in
theorem rsign_two (A : Option Addr) (n m : Nat) (rs : List Ent) (i : Nat) (c d : Int) (w : World) (h : RRow w A n m rs) (hi : i + 1 < n) (hn : n ≤ 16384) (hc : runeAt rs i = c) (hd : runeAt rs (i + 1) = d) (h1 : (c = 45 ∧ d = 62) ∨ (c = 60 ∧ d = 61) ∨ (c = 61 ∧ d = 61)) : Calls Tryd.prog 50 #[.slice A n m, .int .i64 (i : Int)] w fun e w' => e = .returned (.string ⟨(signF c d).toArray⟩) ∧ Below w.heap.size w w' := by
  obtain ⟨g, rfl, hg, hx⟩ := h.at' (by omega)
  have hcap := h.cap
  obtain ⟨e, he⟩ : ∃ e, rs[i]? = some e := ⟨rs[i]'(by have := h.len; omega), List.getElem?_eq_getElem _⟩
  obtain ⟨e', he'⟩ : ∃ e, rs[i + 1]? = some e := ⟨rs[i + 1]'(by have := h.len; omega), List.getElem?_eq_getElem _⟩
  obtain ⟨x0, -⟩ := hx i e he
  obtain ⟨y0, -⟩ := hx (i + 1) e' he'
  rw [rune_of he] at hc
  rw [rune_of he'] at hd
  rw [hc] at x0
  rw [hd] at y0
  have hlt' : (i : Int) + 1 < n := by omega
  clear hx he he' h hc hd
  rcases h1 with ⟨rfl, rfl⟩ | ⟨rfl, rfl⟩ | ⟨rfl, rfl⟩
  all_goals
    go_enter Tryd.func50, Tryd.ntmps50
    go_wp2
    go_ret
    exact ⟨rfl, Below.refl _ _⟩
/-- What sign tells at place i of a row of runes. -/
theorem rsign_any (A : Option Addr) (n m : Nat) (rs : List Ent) (i : Nat) (w : World) (h : RRow w A n m rs) (hi : i < n) (hn : n ≤ 16384) : Calls Tryd.prog 50 #[.slice A n m, .int .i64 (i : Int)] w fun e w' => e = .returned (.string ⟨(signF (runeAt rs i) (runeAt rs (i + 1))).toArray⟩) ∧ Below w.heap.size w w' := by
  by_cases hlt : i + 1 < n
  · by_cases hT : (runeAt rs i = 45 ∧ runeAt rs (i + 1) = 62) ∨ (runeAt rs i = 60 ∧ runeAt rs (i + 1) = 61) ∨ (runeAt rs i = 61 ∧ runeAt rs (i + 1) = 61)
    · exact rsign_two A n m rs i _ _ w h hlt hn rfl rfl hT
    · exact rsign_core A n m rs i _ _ w h hi hn rfl (.inl ⟨hlt, rfl⟩) (by omega)
  · have ho : runeAt rs (i + 1) = -1 := runeAt_out (by have := h.len; omega)
    rw [ho, signF_end]
    exact rsign_core A n m rs i _ 0 w h hi hn rfl (.inr ⟨by omega, rfl⟩) (by omega)
end Go.Proofs.YtdmgpeflanjngaaDoor
