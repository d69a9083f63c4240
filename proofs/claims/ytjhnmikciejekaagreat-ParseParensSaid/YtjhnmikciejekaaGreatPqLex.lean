/-
  Texts of one proof, in their order. No condition.
-/
import Derived.Test.YtjhnmikciejekaaGreatPqToken
import Derived.Test.YtjhnmikciejekaaGreatPqPlace
namespace Go.Proofs.YtjhnmikciejekaaGreat
open Go.ChangeShapes Go.WideShapes Go.ChangeAt Go.RowKit
set_option linter.unusedVariables false
theorem Tryz.info59 : (Tryz.prog.info? 59).map (fun i => (i.zero, i.size, i.bytes)) = some (some (.agg #[.int .i64 0, .string ⟨#[]⟩, .int .i64 0, .slice none 0 0, .int .i64 0, .int .i64 0]), 6, 72) := by kernel_rfl
def tokCells (t : Tok) (v : Value) : List Value := [.int .i64 t.kind, .string ⟨t.text.toArray⟩, .int .i64 t.num, v, .int .i64 t.line, .int .i64 t.col]
def allCells (ps : List (Tok × Value)) : List Value := ps.flatMap (fun p => tokCells p.1 p.2)
theorem allCells_snoc (ps : List (Tok × Value)) (t : Tok) (v : Value) : allCells (ps ++ [(t, v)]) = allCells ps ++ tokCells t v := by simp [allCells]
def BytesIn (W : World) (B : Nat) (ps : List (Tok × Value)) : Prop := ∀ p ∈ ps, ∃ A n c, p.2 = .slice A n c ∧ W.ownsRow B 5 1 p.2 p.1.bytes.length (Lib.byteCells p.1.bytes)
structure Toks (W : World) (B : Nat) (v : Value) (ps : List (Tok × Value)) : Prop where
  own : W.ownsRow B 59 6 v ps.length (allCells ps)
  bytes : BytesIn W B ps
theorem BytesIn.keep {W W' : World} {B : Nat} {ps : List (Tok × Value)} (h : BytesIn W B ps) (hb : ∀ i cs, i < W.heap.size → B ≤ i → W.heap[i]? = some (.cells cs 5 (0, 0)) → W'.heap[i]? = W.heap[i]?) : BytesIn W' B ps := by
  intro p hp
  obtain ⟨A, n, c, hv, ho⟩ := h p hp
  refine ⟨A, n, c, hv, ho.1, ?_⟩
  rcases ho.2 with hn | ⟨g, cap, cur, hv2, hB, hg, rest⟩
  · exact .inl hn
  · exact .inr ⟨g, cap, cur, hv2, hB, (hb g cur (Array.getElem?_eq_some_iff.1 hg).1 hB hg).trans hg, rest⟩
theorem Toks.below {W W' : World} {B : Nat} {v : Value} {ps : List (Tok × Value)} (h : Toks W B v ps) (hb : Below W.heap.size W W') : Toks W' B v ps :=
  ⟨owns_below h.own hb, h.bytes.keep (fun i _ hi _ _ => hb.block i hi)⟩
theorem Toks.grown {W W' : World} {B R : Nat} {v : Value} {ps : List (Tok × Value)} (h : Toks W B v ps) (hg : W.grownBy W' (some R)) (hR : R < B) : Toks W' B v ps :=
  ⟨h.own.kept hg (by
    cases ho : v.ownBlock with
    | none => exact .inl rfl
    | some i => have := (h.own.lt i ho).1; exact .inr (by simp; omega)), h.bytes.keep (fun i _ hi hB _ => hg.block i hi (by simp; omega))⟩
theorem Toks.put {W w1 : World} {B : Nat} {v v' b : Value} {ps : List (Tok × Value)} {t : Tok} {tmp : Obj} (h : Toks W B v ps) (hbv : ∃ A n c, b = .slice A n c) (hb : W.ownsRow B 5 1 b t.bytes.length (Lib.byteCells t.bytes))
    (hown : w1.ownsRow B 59 6 v' (ps.length + 1) (allCells ps ++ tokCells t b)) (hg : (W.alloc tmp).grownBy w1 v.ownBlock) : Toks w1 B v' (ps ++ [(t, b)]) := by
  refine ⟨by rw [allCells_snoc, List.length_append]; exact hown, ?_⟩
  have hbi : BytesIn W B (ps ++ [(t, b)]) := by
    intro p hp
    rcases List.mem_append.1 hp with hp | hp
    · exact h.bytes p hp
    · obtain rfl : p = (t, b) := by simpa using hp
      obtain ⟨A, n, c, rfl⟩ := hbv
      exact ⟨A, n, c, rfl, hb⟩
  refine hbi.keep (fun i cs hi hB hc => ?_)
  rw [hg.block i (by simp; omega) (not_own h.own hc (by decide)), Below.heap_alloc _ _ _ hi]
theorem skipF_ge : ∀ (l : List Int) (m : Bool) (k : Nat), k ≤ skipF m k l := by
  intro l
  induction l with
  | nil => intro m k; cases m <;> simp [skipF]
  | cons c t ih =>
    intro m k
    have h1 := ih false (k + 1)
    have h2 := ih true (k + 1)
    cases m
    · rw [skipF]; split
      · omega
      · split <;> omega
    · rw [skipF]; split <;> omega
theorem numF_ge : ∀ (l : List Int) (n : Int) (k : Nat) (n' : Int) (k' : Nat), numF n k l = some (n', k') → k ≤ k' := by
  intro l
  induction l with
  | nil => intro n k n' k' h; simp [numF] at h; omega
  | cons c t ih =>
    intro n k n' k' h
    rw [numF] at h
    split at h
    · split at h
      · cases h
      · have := ih _ _ _ _ h; omega
    · simp at h; omega
theorem numF_gt {c : Int} {t : List Int} {n : Int} {k : Nat} {n' : Int} {k' : Nat} (hd : digB c = true) (h : numF n k (c :: t) = some (n', k')) : k < k' := by
  rw [numF, if_pos hd] at h
  split at h
  · cases h
  · have := numF_ge _ _ _ _ _ h; omega
theorem txtF_ge : ∀ (f : Nat) (acc : List UInt8) (k : Nat) (l : List Int) (b : List UInt8) (k' : Nat), txtF f acc k l = some (b, k') → k < k' := by
  intro f
  induction f with
  | zero => intro acc k l b k' h; simp [txtF] at h
  | succ f ih =>
    intro acc k l b k' h
    cases l with
    | nil => simp [txtF] at h
    | cons c t =>
      rw [txtF] at h
      split at h
      · simp at h; omega
      split at h
      · cases h
      split at h
      · cases he : escF t with
        | none => rw [he] at h; cases h
        | some p =>
          obtain ⟨x, m⟩ := p
          rw [he] at h
          have := ih _ _ _ _ _ h; omega
      · have := ih _ _ _ _ _ h; omega
theorem namB_pos {c : Int} {t : List Int} (h : lowB c = true ∨ upB c = true) : 1 ≤ (namB (c :: t)).length := by
  rw [namB_cons (by simp [nameB]; rcases h with h | h <;> simp [h])]; simp
theorem tokF_gt {k : Nat} {L C : Int} {l : List Int} {t : Tok} {k' : Nat} (h : tokF k L C l = .inr (t, k')) (hk : t.kind ≠ 0) : k < k' := by
  cases l with
  | nil => rw [tokF_end rfl] at h; cases h; exact absurd rfl hk
  | cons c r =>
    by_cases h1 : lowB c = true ∨ upB c = true
    · have := namB_pos (t := r) h1
      rw [tokF_name h1] at h
      split at h
      · cases h
      · cases h; omega
    by_cases h2 : digB c = true
    · cases hn : numF 0 k (c :: r) with
      | none => rw [tokF_num_no h1 h2 hn] at h; cases h
      | some p => obtain ⟨n, j⟩ := p
                  have := numF_gt h2 hn
                  rw [tokF_num h1 h2 hn] at h; cases h; exact this
    by_cases h3 : c = 34
    · subst h3
      cases hn : textF [] (k + 1) r with
      | none => rw [tokF_text_no hn] at h; cases h
      | some p => obtain ⟨b, j⟩ := p
                  have := txtF_ge _ _ _ _ _ _ hn
                  rw [tokF_text hn] at h
                  split at h
                  · cases h
                  · cases h; omega
    · rw [tokF_sign h1 h2 h3] at h
      split at h
      · cases h
      · rename_i hs
        cases h
        have : (signF c (r.headD (-1))).length ≠ 0 := fun e => hs (List.eq_nil_of_length_eq_zero e)
        omega
theorem oneF_gt {rs : List Ent} {eL eC : Int} {k : Nat} {t : Tok} {k' : Nat} (h : oneF rs eL eC k = .inr (t, k')) (hk : t.kind ≠ 0) : k < k' := by
  have h1 := tokF_gt h hk
  have h2 := skipF_ge ((runesI rs).drop k) false k
  unfold passF at h1
  omega
def restF (rs : List Ent) (eL eC : Int) (f k : Nat) (l : List Tok) : Sum (Int × Int × Int) (List Tok) := match lexF rs eL eC f k l.length with | .inl e => .inl e | .inr r => .inr (l ++ r)
theorem restF_fault {rs : List Ent} {eL eC : Int} {f k : Nat} {l : List Tok} {er : Int} (h : oneF rs eL eC k = .inl er) : restF rs eL eC (f + 1) k l = .inl (er, lineAt rs eL (passF rs k), colAt rs eC (passF rs k)) := by
  simp [restF, lexF, h]
theorem restF_many {rs : List Ent} {eL eC : Int} {f k : Nat} {l : List Tok} {t : Tok} {k' : Nat} (h : oneF rs eL eC k = .inr (t, k')) (hl : l.length = 4096) : restF rs eL eC (f + 1) k l = .inl (27, lineAt rs eL (passF rs k), colAt rs eC (passF rs k)) := by
  simp [restF, lexF, h, hl]
theorem restF_end {rs : List Ent} {eL eC : Int} {f k : Nat} {l : List Tok} {t : Tok} {k' : Nat} (h : oneF rs eL eC k = .inr (t, k')) (hl : l.length ≠ 4096) (hk : t.kind = 0) : restF rs eL eC (f + 1) k l = .inr (l ++ [t]) := by
  simp [restF, lexF, h, hl, hk]
theorem restF_on {rs : List Ent} {eL eC : Int} {f k : Nat} {l : List Tok} {t : Tok} {k' : Nat} (h : oneF rs eL eC k = .inr (t, k')) (hl : l.length ≠ 4096) (hk : t.kind ≠ 0) : restF rs eL eC (f + 1) k l = restF rs eL eC f k' (l ++ [t]) := by
  simp only [restF, lexF, h, hl, hk, List.length_append, List.length_cons, List.length_nil, Nat.zero_add, if_false]
  cases lexF rs eL eC f k' (l.length + 1) <;> simp
def LexTells (s : ByteArray) (w : World) (e : Ending) (w' : World) : Prop :=
  (∃ er L C, lexOf s = .inl (er, L, C) ∧ er ≠ 0 ∧ e = .returned (.tuple #[.slice none 0 0, .agg #[.int .i64 er, .int .i64 L, .int .i64 C]]) ∧ Below w.heap.size w w') ∨
  (∃ A n c ps, lexOf s = .inr (ps.map (·.1)) ∧ n = ps.length ∧ e = .returned (.tuple #[.slice A n c, .agg #[.int .i64 0, .int .i64 0, .int .i64 0]]) ∧ Toks w' w.heap.size (.slice A n c) ps ∧ Below w.heap.size w w')
theorem three_cells {W : World} {U : Nat} {a b c : Value} (h : W.heap[U]? = some (.cells #[a, b, c] 40 (0, 0))) : W.cell? ⟨U, 0, none⟩ = some a ∧ W.cell? ⟨U, 1, none⟩ = some b ∧ W.cell? ⟨U, 2, none⟩ = some c ∧ ∀ i, W.frozen? ⟨U, i, none⟩ = false :=
  ⟨cell_of_row W U 0 _ 40 (0, 0) h, cell_of_row W U 1 _ 40 (0, 0) h, cell_of_row W U 2 _ 40 (0, 0) h, fun i => by simp [World.frozen?, h]⟩
theorem lex_end {W : World} {U : Nat} {a b c x0 x1 x2 tv : Value} {tmps : Array Value} {Q : Ending → World → Prop} (hU : W.heap[U]? = some (.cells #[a, b, c] 40 (0, 0))) (t3 : tmps[3]?.getD undef = .pointer (some ⟨U, 0, none⟩)) (t2 : tmps[2]?.getD undef = tv)
    (hQ : ∀ F, Two W F U U → Q (.returned (.tuple #[tv, .agg #[x0, x1, x2]])) F) :
    bodyPost Tryz.prog Tryz.f56 Q .ret { tmps := tmps, defers := [] } (((W.setCell ⟨U, 0, none⟩ x0).setCell ⟨U, 1, none⟩ x1).setCell ⟨U, 2, none⟩ x2) := by
  have hF : (((W.setCell ⟨U, 0, none⟩ x0).setCell ⟨U, 1, none⟩ x1).setCell ⟨U, 2, none⟩ x2).heap[U]? = some (.cells #[x0, x1, x2] 40 (0, 0)) := by
    simp [World.setCell, Array.getElem?_modify, hU]
  have h2 : Two W (((W.setCell ⟨U, 0, none⟩ x0).setCell ⟨U, 1, none⟩ x1).setCell ⟨U, 2, none⟩ x2) U U := (((Two.refl W U U).set (.inl rfl) _).set (.inl rfl) _).set (.inl rfl) _
  generalize (((W.setCell ⟨U, 0, none⟩ x0).setCell ⟨U, 1, none⟩ x1).setCell ⟨U, 2, none⟩ x2) = F at hF h2
  obtain ⟨c0, c1, c2, _⟩ := three_cells hF
  refine bodyPost_ret (v := .tuple #[tv, .agg #[x0, x1, x2]]) ?_ rfl (hQ F h2)
  simp [results, Tryz.results56, go_sem, t2, t3, c0, c1, c2]
theorem Two.below {w W F : World} {U : Nat} (h : Two W F U U) (hb : Below w.heap.size w W) (hU : w.heap.size ≤ U) : Below w.heap.size w F :=
  ⟨h.os.trans hb.os, h.tape.trans hb.tape, h.output.trans hb.output, by rw [h.size]; exact hb.size, fun i hi => (h.block i (by omega) (by omega)).trans (hb.block i hi)⟩
set_option maxRecDepth 100000 in
set_option maxHeartbeats 2000000 in
theorem lex_fault (s : ByteArray) (er L C : Int) (w : World) (her : er ≠ 0) (hl : lexOf s = .inl (er, L, C)) (HS : ∀ w, Calls Tryz.prog 100 #[.string s] w fun e w' => e = .returned (.tuple #[.slice none 0 0, .agg #[.int .i64 er, .int .i64 L, .int .i64 C]]) ∧ Below w.heap.size w w') :
    Calls Tryz.prog 56 #[.string s] w (LexTells s w) := by
  have H := Lib.hid HS
  have Hl := Lib.hid hl
  have hne : (er != 0) = true := by simpa using her
  clear HS hl
  go_enter Tryz.func56, Tryz.ntmps56
  go_wp2_with fail
  refine (H.out _).mono ?_
  rintro e w1 ⟨rfl, hb⟩
  have hz := hb.size
  rw [World.size_alloc] at hz
  have hF1 : w1.heap[w.heap.size]? = some (.cells #[.int .i64 0, .int .i64 0, .int .i64 0] 40 (0, 0)) := (hb.block _ (by simp)).trans (heap_alloc_new w _)
  have hF2 : (w1.alloc (.cells #[.int .i64 er, .int .i64 L, .int .i64 C] 40)).heap[w.heap.size]? = some (.cells #[.int .i64 0, .int .i64 0, .int .i64 0] 40 (0, 0)) := (Below.heap_alloc _ _ _ (by omega)).trans hF1
  obtain ⟨f0, f1, f2, ff⟩ := three_cells hF2
  have hbw : Below w.heap.size w (w1.alloc (.cells #[.int .i64 er, .int .i64 L, .int .i64 C] 40)) := (((Below.refl _ _).alloc (Nat.le_refl _) _).trans (hb.mono (by simp))).alloc (by omega) _
  have Hbw := Lib.hid hbw
  have HF2 := Lib.hid hF2
  clear hb hF1 hbw hF2
  go_wp2
  go_region
  go_wp2
  refine lex_end (W := (w1.alloc (.cells #[.int .i64 er, .int .i64 L, .int .i64 C] 40)).drew) HF2.out rfl rfl (fun F h2 => .inl ⟨er, L, C, Hl.out, her, rfl, h2.below Hbw.out.drew (Nat.le_refl _)⟩)
end Go.Proofs.YtjhnmikciejekaaGreat
