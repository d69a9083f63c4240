/-
  For every text and all runes the Go function RunesAll of the statements on package runes returns true: a sound text's runes are the text, texts of runes are sound and of just these, places rise, and the place of each rune's first byte is its own. No condition.
-/
import Derived.Test.YtbkcmbpclcamgaaRows
import Derived.Test.YtbkcmbpclcamgaaGood
import Derived.Test.YtbkcmbpclcamgaaPost
import Derived.WalkKit
import Derived.ProofKit
import Derived.OpenShut
namespace Go.Proofs.Ytbkcmbpclcamgaa.runesAll
open Go.ChangeShapes Go.WideShapes Go.ChangeAt Go.RowKit
set_option linter.unusedVariables false

set_option maxRecDepth 100000 in
theorem all_walk (s : ByteArray) (A : Option Addr) (n cap : Nat) (zs : List Int) (w : World) (hs : s.size ≤ 9223372036854775807) (hn : n ≤ 9223372036854775807) (hl : LRow w A n zs) : Calls Try.prog 4 #[.string s, .slice A n cap] w fun e w' => e = .returned (.bool true) ∧ Below w.heap.size w w' := by
  by_cases h1 : 1000 < s.size
  · go_enter Try.func4, Try.ntmps4
    go_wp2_with (go_at_call 7; ((with_reducible refine (awake_any _).mono ?_); rintro e w9 ⟨rfl, hb9⟩))
    go_ret
    exact ⟨rfl, hb9⟩
  by_cases h2 : 200 < n
  · have h1' : s.size ≤ 1000 := by omega
    clear h1
    go_enter Try.func4, Try.ntmps4
    go_wp2_with (go_at_call 7; ((with_reducible refine (awake_any _).mono ?_); rintro e w9 ⟨rfl, hb9⟩))
    go_ret
    exact ⟨rfl, hb9⟩
  cases hb : badOf s with
  | none => exact all_good s A n cap zs w (by omega) (by omega) hl hb
  | some p => exact all_bad s A n cap zs w (by omega) (by omega) hl p.1 p.2 hb

theorem own : ownKnob Try.prog.godebug = none := by kernel_rfl
theorem cells21 : Try.prog.cellsOf 21 = 1 := by kernel_rfl
set_option maxRecDepth 100000 in
theorem lifted (os : Os) (started : os.Started) (H : Type) (enc : TypeId × Value → H) :
    ReturnsInHanded {} Try.checked os 4 .any (Rows.runesAllSpec.pre6 enc Try.prog Try.f4 Rows.runesAllRow.domain false) (Rows.runesAllSpec.post enc Try.prog Try.f4 false true false false) := by
  refine returnsInHanded_of_change (C := Try.checked) own started (by kernel_rfl) Try.func4
    (ChangeSpec.witness6 (enc := enc) (C := Try.checked) false ⟨#[], #[.string ⟨#[]⟩, .slice none 0 0], []⟩ 8 (by kernel_rfl) (by kernel_rfl) (by kernel_rfl) (by kernel_rfl)) ?_
  intro W base args ds gs before hval0 hW hcnd _
  have hval : ∀ (j : Nat) t v, Try.f4.params[j]? = some t → args[j]? = some v → Value.okWide Try.prog W .any base t v := hval0
  have hW' := hW
  obtain ⟨p, q, hA0, hV, rfl, hfz, hnd⟩ := hW
  have hA : DataW.TrodAll enc Try.prog W 0 (fun _ => true) true Try.f4.params.toList args.toList ds p := hA0
  rw [Try.params4] at hA hval
  obtain ⟨v0, vs0, d0, ds0, p0, q0, hargs, rfl, rfl, h0, r0⟩ := trodAll_cons hA
  obtain ⟨v1, vs1, d1, ds1, p1, q1, rfl, rfl, rfl, h1, r1⟩ := trodAll_cons r0
  obtain ⟨rfl, rfl, rfl⟩ := trodAll_nil r1
  obtain rfl : args = #[v0, v1] := by cases args; simp_all
  obtain ⟨rfl, rfl⟩ := trodVars_none hV
  obtain ⟨s, rfl, rfl, rfl, w0⟩ := Go.ChangeMaps.open_string Try.underlying9 (hval 0 9 v0 rfl rfl) h0
  obtain ⟨a0, len, cap, rfl⟩ := okWide_slice Try.underlying38 (hval 1 38 v1 rfl rfl)
  obtain ⟨fuel, hf⟩ := h1
  clear hA0 hval0
  rcases open_ints Try.underlying38 Try.underlying21 cells21 hf with ⟨hcs, hx⟩ | ⟨a, len', cap', zs, hcs, _, hle, hm, hz, hx, hcell, hwz⟩
  · simp [Value.cells] at hcs
    obtain ⟨rfl, rfl, rfl⟩ := hcs
    simp only [Prod.mk.injEq] at hx
    obtain ⟨rfl, rfl⟩ := hx
    simp only [List.append_nil] at hW'
    refine (all_walk s none 0 0 [] W w0 (by omega) ⟨rfl, fun h => by omega⟩).mono fun e W' ⟨he, hg⟩ => ?_
    subst he
    exact ⟨_, rfl, post_law (pa := []) (pv := []) hW' (fun _ _ _ => (trodAll_cons_mk (shut_bool Try.underlying4 _) trodAll_mk0)) (fun sp _ => (trodAll_cons_mk (Go.ChangeMaps.shut_string Try.underlying9 w0) (trodAll_cons_mk (shut_slice_nil Try.underlying38) trodAll_mk0))) (fun _ _ => rfl) rfl hg⟩
  · simp [Value.cells] at hcs
    obtain ⟨rfl, rfl, rfl⟩ := hcs
    simp only [Prod.mk.injEq] at hx
    obtain ⟨rfl, rfl⟩ := hx
    simp only [if_true] at hz
    simp only [List.append_nil, List.nil_append] at hW'
    have hrow : LRow W (some a) len (zs.take len) := by
      refine ⟨by rw [List.length_take]; omega, fun h0 => ?_⟩
      obtain ⟨b, off, spot⟩ := a
      have hspot : spot = none := by simpa [Addr.add] using World.cell?_spot (hcell 0 (by omega))
      subst hspot
      have hcell' : ∀ i, i < zs.length → W.cell? ⟨b, off + i, none⟩ = some (.int .i32 (zs.getD i 0)) := fun i hi => by rw [← add_plain]; exact hcell i hi
      refine ⟨b, off, rfl, World.block_lt_of_cell? W _ (hcell' 0 (by omega)), fun k c hk => ?_⟩
      rw [List.getElem?_take] at hk
      split at hk
      · rw [hcell' k (by omega), List.getD_eq_getElem?_getD, hk]; rfl
      · cases hk
    have hlt : ∀ i, i < zs.length → a.block < W.heap.size := fun i hi => by
      have := World.block_lt_of_cell? W _ (hcell i hi)
      rwa [show (a.add i).block = a.block by unfold Addr.add; split <;> rfl] at this
    refine (all_walk s (some a) len cap (zs.take len) W w0 (by unfold maxLen at hm; omega) hrow).mono fun e W' ⟨he, hg⟩ => ?_
    subst he
    have hcellW : ∀ i, i < zs.length → W'.cell? (a.add i) = some (.int .i32 (zs.getD i 0)) := fun i hi => by
      rw [hg.cell (by rw [show (a.add i).block = a.block by unfold Addr.add; split <;> rfl]; exact hlt i hi)]; exact hcell i hi
    refine ⟨_, rfl, post_law (pa := MemPlace.row a zs.length) (pv := []) hW' (fun _ _ _ => (trodAll_cons_mk (shut_bool Try.underlying4 _) trodAll_mk0)) (fun sp hsp => ?_) (fun _ _ => rfl) (by simp) hg⟩
    have hlen : zs.length = if sp a.block = true then cap else len := by
      by_cases hz0 : zs.length = 0
      · split <;> omega
      · have hspb : sp a.block = true := hsp (.cell a.block a.off) (MemPlace.mem_row.2 ⟨0, by omega, by simp⟩)
        rw [if_pos hspb]; exact hz
    have t1 := shut_ints (enc := enc) (w := W') (base := 0) (spare := sp) (held := true) (a := a) (len := len) (cap := cap) (zs := zs) 0 Try.underlying38 Try.underlying21 cells21 (Nat.zero_le _) hle hm hlen hcellW hwz
    have t2 : DataW.Trod enc Try.prog W' 0 sp true 38 (.slice (some a) len cap) (.slice (lits .i32 (zs.take len)) (lits .i32 (zs.drop len))) (MemPlace.row a zs.length) := ⟨2, by simpa [Value.cells] using t1⟩
    have := trodAll_cons_mk (Go.ChangeMaps.shut_string (enc := enc) (w := W') (base := 0) (sp := sp) (held := true) (s := s) Try.underlying9 w0) (trodAll_cons_mk t2 trodAll_mk0)
    rw [List.nil_append, List.append_nil] at this
    exact this

theorem over : Rows.runesAllRow.holds Try.pinned (OpenSpec.ofChange Rows.runesAllSpec) :=
  OpenClaim.holds_of_wide 4 Try.f4 rfl rfl rfl rfl rfl rfl rfl ⟨rfl, rfl, rfl, rfl, rfl⟩ rfl rfl rfl rfl rfl (by kernel_rfl) Try.func4 (by kernel_rfl)
    (of_decide_eq_true (by kernel_rfl)) (by unfold Func.isWrapper; first | (rw [if_pos (by decide +kernel)]; kernel_rfl) | (rw [if_neg (by decide +kernel)]; exact ⟨rfl, rfl⟩))
    (fun os started H enc _ => lifted os started H enc)

theorem proved : Rows.RunesAllSaid :=
  over
#print axioms proved
end Go.Proofs.Ytbkcmbpclcamgaa.runesAll
