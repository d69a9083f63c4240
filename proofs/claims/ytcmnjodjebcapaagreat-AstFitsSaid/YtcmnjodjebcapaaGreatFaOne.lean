/-
  Texts of one proof, in the order in which they lean on one another. No condition.
-/
import Derived.Test.YtcmnjodjebcapaaGreatFaSplit
namespace Go.Proofs.YtcmnjodjebcapaaGreat
open Go.ChangeShapes Go.WideShapes Go.ChangeAt Go.RowKit
set_option linter.unusedVariables false
def byteN (s : ByteArray) (j : Nat) : Nat := (s.get! j).toNat
theorem byteN_lt (s : ByteArray) (j : Nat) : byteN s j < 256 := UInt8.toNat_lt _
theorem byteN_at (s : ByteArray) (j : Nat) (h : j < s.size) : s[j].toNat = byteN s j := by
  unfold byteN; rw [← get_at s j h]; rfl
def contB (s : ByteArray) (j : Nat) : Bool := decide (j < s.size ∧ 128 ≤ byteN s j ∧ byteN s j ≤ 191)
def okT (s : ByteArray) (i : Nat) : Nat → Bool
  | 0 => true
  | k + 1 => okT s i k && contB s (i + k)
def valT (s : ByteArray) (i : Nat) : Nat → Nat
  | 0 => 0
  | k + 1 => valT s i k * 64 + (byteN s (i + k) - 128)
theorem okT_mono (s : ByteArray) (i : Nat) : ∀ n k, k ≤ n → okT s i n = true → okT s i k = true := by
  intro n
  induction n with
  | zero => intro k hk h; obtain rfl : k = 0 := by omega
            exact h
  | succ n ih =>
    intro k hk h
    by_cases e : k = n + 1
    · rw [e]; exact h
    · refine ih k (by omega) ?_
      have h' : (okT s i n && contB s (i + n)) = true := h
      rw [Bool.and_eq_true] at h'
      exact h'.1
theorem okT_succ {s : ByteArray} {i k : Nat} (h : okT s i (k + 1) = true) : okT s i k = true ∧ i + k < s.size ∧ 128 ≤ byteN s (i + k) ∧ byteN s (i + k) ≤ 191 := by
  have h' : (okT s i k && contB s (i + k)) = true := h
  rw [Bool.and_eq_true] at h'
  exact ⟨h'.1, of_decide_eq_true h'.2⟩
theorem okT_next {s : ByteArray} {i k : Nat} (h : okT s i k = true) (h1 : i + k < s.size) (h2 : 128 ≤ byteN s (i + k)) (h3 : byteN s (i + k) ≤ 191) : okT s i (k + 1) = true := by
  show (okT s i k && contB s (i + k)) = true
  rw [h, contB, decide_eq_true ⟨h1, h2, h3⟩]; rfl
theorem valT_succ (s : ByteArray) (i k : Nat) : valT s i (k + 1) = valT s i k * 64 + (byteN s (i + k) - 128) := rfl
theorem valT_small (s : ByteArray) (i k : Nat) (hk : k ≤ 3) (h : okT s i k = true) : valT s i k ≤ 262143 := by
  have h0 : valT s i 0 = 0 := rfl
  obtain rfl | rfl | rfl | rfl : k = 0 ∨ k = 1 ∨ k = 2 ∨ k = 3 := by omega
  · omega
  · have a0 := okT_succ h
    have e0 : valT s i 1 = valT s i 0 * 64 + (byteN s (i + 0) - 128) := rfl
    omega
  · have a1 := okT_succ h
    have a0 := okT_succ a1.1
    have e0 : valT s i 1 = valT s i 0 * 64 + (byteN s (i + 0) - 128) := rfl
    have e1 : valT s i 2 = valT s i 1 * 64 + (byteN s (i + 1) - 128) := rfl
    omega
  · have a2 := okT_succ h
    have a1 := okT_succ a2.1
    have a0 := okT_succ a1.1
    have e0 : valT s i 1 = valT s i 0 * 64 + (byteN s (i + 0) - 128) := rfl
    have e1 : valT s i 2 = valT s i 1 * 64 + (byteN s (i + 1) - 128) := rfl
    have e2 : valT s i 3 = valT s i 2 * 64 + (byteN s (i + 2) - 128) := rfl
    omega
def tailTells (s : ByteArray) (i n : Nat) (w : World) (e : Ending) (w' : World) : Prop :=
  e = .returned (.tuple #[.int .i32 (if okT s i n = true then (valT s i n : Int) else 0), .bool (okT s i n)]) ∧ w = w'
theorem ret_tail {a b : Int} {c d : Bool} (h : a = b) (g : c = d) : Ending.returned (.tuple #[.int .i32 a, .bool c]) = .returned (.tuple #[.int .i32 b, .bool d]) := by rw [h, g]
theorem tail_no {s : ByteArray} {i n k : Nat} (hk : k < n) (h : contB s (i + k) = false) : okT s i n = false := by
  rw [← Bool.not_eq_true]
  intro hn
  have h1 : (okT s i k && contB s (i + k)) = true := okT_mono s i n (k + 1) (by omega) hn
  rw [h, Bool.and_false] at h1
  cases h1
theorem cont_no {s : ByteArray} {j : Nat} (h : ¬ (j < s.size ∧ 128 ≤ byteN s j ∧ byteN s j ≤ 191)) : contB s j = false := decide_eq_false h
set_option maxHeartbeats 1000000 in
set_option maxRecDepth 100000 in
theorem tail_any (s : ByteArray) (i n : Nat) (hs : s.size ≤ 16384) (hi : i ≤ s.size) (hn : n ≤ 3) (w : World) : Calls Tryz.prog 160 #[.string s, .int .i64 (i : Int), .int .i64 (n : Int)] w (tailTells s i n w) := by
  go_enter Tryz.func160, Tryz.ntmps160
  go_wp2
  go_loop [8, 9] (fun r j => ∃ k : Nat, k ≤ n ∧ okT s i k = true ∧ j = .int .i64 ((i : Int) + k) ∧ r = .int .i32 (valT s i k)) (fun _ j => i + n - (intOf j).toNat)
  case atStart => exact ⟨0, by omega, rfl, by simp, rfl⟩
  case round =>
    obtain ⟨k, hk, hok, rfl, rfl⟩ := hrel
    have hv := valT_small s i k (by omega) hok
    have Hok := Lib.hid hok
    clear hok
    by_cases hlt : k < n
    · by_cases hz : i + k < s.size
      · have hb := byteN_at s (i + k) hz
        have Hb := Lib.hid hb
        clear hb
        have hc : (i : Int) + k < s.size := by omega
        go_wp2
        · go_ret2
          have hb := Hb.out
          have : okT s i n = false := tail_no hlt (cont_no (by omega))
          exact ⟨ret_tail (by rw [this]; rfl) this.symm, rfl⟩
        · have hb := Hb.out
          refine ⟨⟨k + 1, by omega, okT_next Hok.out hz (by omega) (by omega), by go_num, by rw [valT_succ]; go_num⟩, ?_⟩
          simp [intOf]; omega
        · go_ret2
          have hb := Hb.out
          have : okT s i n = false := tail_no hlt (cont_no (by omega))
          exact ⟨ret_tail (by rw [this]; rfl) this.symm, rfl⟩
      · have hc : (s.size : Int) ≤ (i : Int) + k := by omega
        go_wp2
        go_ret2
        have : okT s i n = false := tail_no hlt (cont_no (by omega))
        exact ⟨ret_tail (by rw [this]; rfl) this.symm, rfl⟩
    · obtain rfl : k = n := by omega
      go_wp2
      go_ret2
      exact ⟨ret_tail (by rw [Hok.out]; rfl) Hok.out.symm, rfl⟩
theorem kind2 (n b0 b1 b2 b3 : Nat) (h0 : 192 ≤ b0) (h1 : b0 < 224) (hb : b1 < 256) :
    (((1 < n ∧ 128 ≤ b1 ∧ b1 ≤ 191) ∧ 128 ≤ (b0 - 192) * 64 + (b1 - 128)) → Lib.decodeN n b0 b1 b2 b3 = ((b0 - 192) * 64 + (b1 - 128), 2)) ∧
    (¬ ((1 < n ∧ 128 ≤ b1 ∧ b1 ≤ 191) ∧ 128 ≤ (b0 - 192) * 64 + (b1 - 128)) → Lib.decodeN n b0 b1 b2 b3 = (65533, 1)) := by
  unfold Lib.decodeN
  refine ⟨fun h => ?_, fun h => ?_⟩
  · rw [if_neg (by omega), if_pos (by omega), if_pos (by omega)]; rw [Prod.mk.injEq]; omega
  · rw [if_neg (by omega)]
    by_cases c : b0 / 32 = 6 ∧ 1 < n ∧ b1 / 64 = 2
    · rw [if_pos c, if_neg (by omega)]
    · rw [if_neg c, if_neg (by omega), if_neg (by omega)]
theorem kind3 (n b0 b1 b2 b3 : Nat) (h0 : 224 ≤ b0) (h1 : b0 < 240) (hb1 : b1 < 256) (hb2 : b2 < 256) (r : Nat) (hr : r = (b0 - 224) * 4096 + ((b1 - 128) * 64 + (b2 - 128))) :
    (((1 < n ∧ 128 ≤ b1 ∧ b1 ≤ 191) ∧ (2 < n ∧ 128 ≤ b2 ∧ b2 ≤ 191)) ∧ 2048 ≤ r ∧ (r < 55296 ∨ 57343 < r) → Lib.decodeN n b0 b1 b2 b3 = (r, 3)) ∧
    (¬ (((1 < n ∧ 128 ≤ b1 ∧ b1 ≤ 191) ∧ (2 < n ∧ 128 ≤ b2 ∧ b2 ≤ 191)) ∧ 2048 ≤ r ∧ (r < 55296 ∨ 57343 < r)) → Lib.decodeN n b0 b1 b2 b3 = (65533, 1)) := by
  unfold Lib.decodeN
  refine ⟨fun h => ?_, fun h => ?_⟩
  · rw [if_neg (by omega), if_neg (by omega), if_pos (by omega), if_pos (by omega)]; rw [Prod.mk.injEq]; omega
  · rw [if_neg (by omega), if_neg (by omega)]
    by_cases c : b0 / 16 = 14 ∧ (1 < n ∧ b1 / 64 = 2) ∧ 2 < n ∧ b2 / 64 = 2
    · rw [if_pos c, if_neg (by omega)]
    · rw [if_neg c, if_neg (by omega)]
theorem kind4 (n b0 b1 b2 b3 : Nat) (h0 : 240 ≤ b0) (h1 : b0 < 248) (hb1 : b1 < 256) (hb2 : b2 < 256) (hb3 : b3 < 256) (r : Nat) (hr : r = (b0 - 240) * 262144 + (((b1 - 128) * 64 + (b2 - 128)) * 64 + (b3 - 128))) :
    ((((1 < n ∧ 128 ≤ b1 ∧ b1 ≤ 191) ∧ (2 < n ∧ 128 ≤ b2 ∧ b2 ≤ 191)) ∧ (3 < n ∧ 128 ≤ b3 ∧ b3 ≤ 191)) ∧ 65536 ≤ r ∧ r ≤ 1114111 → Lib.decodeN n b0 b1 b2 b3 = (r, 4)) ∧
    (¬ ((((1 < n ∧ 128 ≤ b1 ∧ b1 ≤ 191) ∧ (2 < n ∧ 128 ≤ b2 ∧ b2 ≤ 191)) ∧ (3 < n ∧ 128 ≤ b3 ∧ b3 ≤ 191)) ∧ 65536 ≤ r ∧ r ≤ 1114111) → Lib.decodeN n b0 b1 b2 b3 = (65533, 1)) := by
  unfold Lib.decodeN
  refine ⟨fun h => ?_, fun h => ?_⟩
  · rw [if_neg (by omega), if_neg (by omega), if_neg (by omega), if_pos (by omega), if_pos (by omega)]; rw [Prod.mk.injEq]; omega
  · rw [if_neg (by omega), if_neg (by omega), if_neg (by omega)]
    by_cases c : b0 / 8 = 30 ∧ (1 < n ∧ b1 / 64 = 2) ∧ (2 < n ∧ b2 / 64 = 2) ∧ 3 < n ∧ b3 / 64 = 2
    · rw [if_pos c, if_neg (by omega)]
    · rw [if_neg c]
theorem kind0 (n b0 b1 b2 b3 : Nat) (h0 : (128 ≤ b0 ∧ b0 < 192) ∨ 248 ≤ b0) : Lib.decodeN n b0 b1 b2 b3 = (65533, 1) := by
  unfold Lib.decodeN
  rw [if_neg (by omega), if_neg (by omega), if_neg (by omega), if_neg (by omega)]
def oneR (s : ByteArray) (i : Nat) : Int := if badAt s i = true then 0 else (Utf8.decode s i).1
def oneW (s : ByteArray) (i : Nat) : Int := if badAt s i = true then 0 else (Utf8.decode s i).2
def oneTells (s : ByteArray) (i : Nat) (w : World) (e : Ending) (w' : World) : Prop := e = .returned (.tuple #[.int .i32 (oneR s i), .int .i64 (oneW s i)]) ∧ w = w'
theorem dec_bytes (s : ByteArray) (i : Nat) : Utf8.decode s i = Lib.decodeN (s.size - i) (byteN s i) (byteN s (i + 1)) (byteN s (i + 2)) (byteN s (i + 3)) := Lib.decode_at s i
theorem one_good {s : ByteArray} {i r n : Nat} (h : Utf8.decode s i = (r, n)) (hn : n ≠ 1 ∨ r < 128) : oneR s i = r ∧ oneW s i = n := by
  have hb : badAt s i = false := by
    unfold badAt; rw [h]; simp only; rw [decide_eq_false_iff_not]; omega
  unfold oneR oneW
  rw [hb, h]; exact ⟨rfl, rfl⟩
theorem one_bad {s : ByteArray} {i : Nat} (h : Utf8.decode s i = (65533, 1)) : oneR s i = 0 ∧ oneW s i = 0 := by
  have hb : badAt s i = true := by unfold badAt; rw [h]; rfl
  unfold oneR oneW
  rw [hb]; exact ⟨rfl, rfl⟩
theorem ret_one {a b c d : Int} (h : a = b) (g : c = d) : Ending.returned (.tuple #[.int .i32 a, .int .i64 c]) = .returned (.tuple #[.int .i32 b, .int .i64 d]) := by rw [h, g]
theorem tail_yes (s : ByteArray) (i n : Nat) (I N : Int) (hI : I = (i : Int)) (hN : N = (n : Int)) (hs : s.size ≤ 16384) (hi : i ≤ s.size) (hn : n ≤ 3) (hok : okT s i n = true) (w : World) : Calls Tryz.prog 160 #[.string s, .int .i64 I, .int .i64 N] w fun e w' => e = .returned (.tuple #[.int .i32 (valT s i n), .bool true]) ∧ w = w' := by
  subst hI hN
  exact (tail_any s i n hs hi hn w).mono fun e w' ⟨he, hw⟩ => ⟨by rw [he, hok]; rfl, hw⟩
theorem tail_not (s : ByteArray) (i n : Nat) (I N : Int) (hI : I = (i : Int)) (hN : N = (n : Int)) (hs : s.size ≤ 16384) (hi : i ≤ s.size) (hn : n ≤ 3) (hok : okT s i n = false) (w : World) : Calls Tryz.prog 160 #[.string s, .int .i64 I, .int .i64 N] w fun e w' => e = .returned (.tuple #[.int .i32 0, .bool false]) ∧ w = w' := by
  subst hI hN
  exact (tail_any s i n hs hi hn w).mono fun e w' ⟨he, hw⟩ => ⟨by rw [he, hok]; rfl, hw⟩
theorem ok1 {s : ByteArray} {i : Nat} : okT s (i + 1) 1 = true ↔ (1 < s.size - i ∧ 128 ≤ byteN s (i + 1) ∧ byteN s (i + 1) ≤ 191) := by
  refine ⟨fun h => ?_, fun h => ?_⟩
  · have a0 : okT s (i + 1) 0 = true ∧ i + 1 < s.size ∧ 128 ≤ byteN s (i + 1) ∧ byteN s (i + 1) ≤ 191 := okT_succ h
    omega
  · exact okT_next (k := 0) rfl (by omega) h.2.1 h.2.2
theorem ok2 {s : ByteArray} {i : Nat} : okT s (i + 1) 2 = true ↔ ((1 < s.size - i ∧ 128 ≤ byteN s (i + 1) ∧ byteN s (i + 1) ≤ 191) ∧ (2 < s.size - i ∧ 128 ≤ byteN s (i + 2) ∧ byteN s (i + 2) ≤ 191)) := by
  refine ⟨fun h => ?_, fun h => ?_⟩
  · have a1 : okT s (i + 1) 1 = true ∧ i + 2 < s.size ∧ 128 ≤ byteN s (i + 2) ∧ byteN s (i + 2) ≤ 191 := okT_succ h
    have a0 := ok1.1 a1.1
    omega
  · exact okT_next (k := 1) (ok1.2 h.1) (by omega) h.2.2.1 h.2.2.2
theorem ok3 {s : ByteArray} {i : Nat} : okT s (i + 1) 3 = true ↔ (((1 < s.size - i ∧ 128 ≤ byteN s (i + 1) ∧ byteN s (i + 1) ≤ 191) ∧ (2 < s.size - i ∧ 128 ≤ byteN s (i + 2) ∧ byteN s (i + 2) ≤ 191)) ∧ (3 < s.size - i ∧ 128 ≤ byteN s (i + 3) ∧ byteN s (i + 3) ≤ 191)) := by
  refine ⟨fun h => ?_, fun h => ?_⟩
  · have a1 : okT s (i + 1) 2 = true ∧ i + 3 < s.size ∧ 128 ≤ byteN s (i + 3) ∧ byteN s (i + 3) ≤ 191 := okT_succ h
    have a0 := ok2.1 a1.1
    omega
  · exact okT_next (k := 2) (ok2.2 h.1) (by omega) h.2.2.1 h.2.2.2
theorem val1 (s : ByteArray) (i : Nat) : valT s (i + 1) 1 = byteN s (i + 1) - 128 := by
  have : valT s (i + 1) 1 = 0 * 64 + (byteN s (i + 1) - 128) := rfl
  omega
theorem val2 (s : ByteArray) (i : Nat) : valT s (i + 1) 2 = (byteN s (i + 1) - 128) * 64 + (byteN s (i + 2) - 128) := by
  have : valT s (i + 1) 2 = valT s (i + 1) 1 * 64 + (byteN s (i + 2) - 128) := rfl
  rw [this, val1]
theorem val3 (s : ByteArray) (i : Nat) : valT s (i + 1) 3 = ((byteN s (i + 1) - 128) * 64 + (byteN s (i + 2) - 128)) * 64 + (byteN s (i + 3) - 128) := by
  have : valT s (i + 1) 3 = valT s (i + 1) 2 * 64 + (byteN s (i + 3) - 128) := rfl
  rw [this, val2]
theorem valid_no {r : Int} (h : (!validB r) = true) : ¬ ((0 ≤ r ∧ r < 55296) ∨ (57343 < r ∧ r ≤ 1114111)) := by
  rw [← validB_iff]; simpa using h
theorem valid_yes {r : Int} (h : (!validB r) = false) : (0 ≤ r ∧ r < 55296) ∨ (57343 < r ∧ r ≤ 1114111) := by
  rw [← validB_iff]; simpa using h
theorem one1_good (s : ByteArray) (i x : Nat) (hx : x = byteN s i) (h0 : 192 ≤ byteN s i) (h1 : byteN s i < 224) (ok : okT s (i + 1) 1 = true) (h : 128 ≤ (((x : Int) - 192) * 64 + (valT s (i + 1) 1 : Int))) (hv : (!validB (((x : Int) - 192) * 64 + (valT s (i + 1) 1 : Int))) = false) : oneR s i = (((x : Int) - 192) * 64 + (valT s (i + 1) 1 : Int)) ∧ oneW s i = 1 + 1 := by
  have hk := ok1.1 ok
  have hw := val1 s i
  have hd := (kind2 (s.size - i) (byteN s i) (byteN s (i + 1)) (byteN s (i + 2)) (byteN s (i + 3)) h0 h1 (byteN_lt _ _)).1
  have hv' := valid_yes hv
  have hg := one_good (s := s) (i := i) (by rw [dec_bytes, hd (by omega)]) (.inl (by omega))
  rw [hg.1, hg.2]
  omega
theorem one1_bad (s : ByteArray) (i x : Nat) (hx : x = byteN s i) (h0 : 192 ≤ byteN s i) (h1 : byteN s i < 224) (ok : okT s (i + 1) 1 = true) (h : (((x : Int) - 192) * 64 + (valT s (i + 1) 1 : Int)) < 128 ∨ (!validB (((x : Int) - 192) * 64 + (valT s (i + 1) 1 : Int))) = true) : oneR s i = 0 ∧ oneW s i = 0 := by
  have hk := ok1.1 ok
  have hw := val1 s i
  have hd := (kind2 (s.size - i) (byteN s i) (byteN s (i + 1)) (byteN s (i + 2)) (byteN s (i + 3)) h0 h1 (byteN_lt _ _)).2
  have h' : (((x : Int) - 192) * 64 + (valT s (i + 1) 1 : Int)) < 128 ∨ ¬ ((0 ≤ (((x : Int) - 192) * 64 + (valT s (i + 1) 1 : Int)) ∧ (((x : Int) - 192) * 64 + (valT s (i + 1) 1 : Int)) < 55296) ∨ (57343 < (((x : Int) - 192) * 64 + (valT s (i + 1) 1 : Int)) ∧ (((x : Int) - 192) * 64 + (valT s (i + 1) 1 : Int)) ≤ 1114111)) := h.imp_right valid_no
  exact one_bad (by rw [dec_bytes, hd (by omega)])
theorem one1_none (s : ByteArray) (i : Nat) (h0 : 192 ≤ byteN s i) (h1 : byteN s i < 224) (ok : okT s (i + 1) 1 = false) : oneR s i = 0 ∧ oneW s i = 0 := by
  have hk := mt ok1.2 (by rw [ok]; simp)
  have hd := (kind2 (s.size - i) (byteN s i) (byteN s (i + 1)) (byteN s (i + 2)) (byteN s (i + 3)) h0 h1 (byteN_lt _ _)).2
  exact one_bad (by rw [dec_bytes, hd (by omega)])
theorem one2_good (s : ByteArray) (i x : Nat) (hx : x = byteN s i) (h0 : 224 ≤ byteN s i) (h1 : byteN s i < 240) (ok : okT s (i + 1) 2 = true) (h : 2048 ≤ (((x : Int) - 224) * 4096 + (valT s (i + 1) 2 : Int))) (hv : (!validB (((x : Int) - 224) * 4096 + (valT s (i + 1) 2 : Int))) = false) : oneR s i = (((x : Int) - 224) * 4096 + (valT s (i + 1) 2 : Int)) ∧ oneW s i = 2 + 1 := by
  have hk := ok2.1 ok
  have hw := val2 s i
  have hd := (kind3 (s.size - i) (byteN s i) (byteN s (i + 1)) (byteN s (i + 2)) (byteN s (i + 3)) h0 h1 (byteN_lt _ _) (byteN_lt _ _) (((byteN s i) - 224) * 4096 + ((byteN s (i + 1) - 128) * 64 + (byteN s (i + 2) - 128))) rfl).1
  have hv' := valid_yes hv
  have hg := one_good (s := s) (i := i) (by rw [dec_bytes, hd (by omega)]) (.inl (by omega))
  rw [hg.1, hg.2]
  omega
theorem one2_bad (s : ByteArray) (i x : Nat) (hx : x = byteN s i) (h0 : 224 ≤ byteN s i) (h1 : byteN s i < 240) (ok : okT s (i + 1) 2 = true) (h : (((x : Int) - 224) * 4096 + (valT s (i + 1) 2 : Int)) < 2048 ∨ (!validB (((x : Int) - 224) * 4096 + (valT s (i + 1) 2 : Int))) = true) : oneR s i = 0 ∧ oneW s i = 0 := by
  have hk := ok2.1 ok
  have hw := val2 s i
  have hd := (kind3 (s.size - i) (byteN s i) (byteN s (i + 1)) (byteN s (i + 2)) (byteN s (i + 3)) h0 h1 (byteN_lt _ _) (byteN_lt _ _) (((byteN s i) - 224) * 4096 + ((byteN s (i + 1) - 128) * 64 + (byteN s (i + 2) - 128))) rfl).2
  have h' : (((x : Int) - 224) * 4096 + (valT s (i + 1) 2 : Int)) < 2048 ∨ ¬ ((0 ≤ (((x : Int) - 224) * 4096 + (valT s (i + 1) 2 : Int)) ∧ (((x : Int) - 224) * 4096 + (valT s (i + 1) 2 : Int)) < 55296) ∨ (57343 < (((x : Int) - 224) * 4096 + (valT s (i + 1) 2 : Int)) ∧ (((x : Int) - 224) * 4096 + (valT s (i + 1) 2 : Int)) ≤ 1114111)) := h.imp_right valid_no
  exact one_bad (by rw [dec_bytes, hd (by omega)])
theorem one2_none (s : ByteArray) (i : Nat) (h0 : 224 ≤ byteN s i) (h1 : byteN s i < 240) (ok : okT s (i + 1) 2 = false) : oneR s i = 0 ∧ oneW s i = 0 := by
  have hk := mt ok2.2 (by rw [ok]; simp)
  have hd := (kind3 (s.size - i) (byteN s i) (byteN s (i + 1)) (byteN s (i + 2)) (byteN s (i + 3)) h0 h1 (byteN_lt _ _) (byteN_lt _ _) (((byteN s i) - 224) * 4096 + ((byteN s (i + 1) - 128) * 64 + (byteN s (i + 2) - 128))) rfl).2
  exact one_bad (by rw [dec_bytes, hd (by omega)])
theorem one3_good (s : ByteArray) (i x : Nat) (hx : x = byteN s i) (h0 : 240 ≤ byteN s i) (h1 : byteN s i < 248) (ok : okT s (i + 1) 3 = true) (h : 65536 ≤ (((x : Int) - 240) * 262144 + (valT s (i + 1) 3 : Int))) (hv : (!validB (((x : Int) - 240) * 262144 + (valT s (i + 1) 3 : Int))) = false) : oneR s i = (((x : Int) - 240) * 262144 + (valT s (i + 1) 3 : Int)) ∧ oneW s i = 3 + 1 := by
  have hk := ok3.1 ok
  have hw := val3 s i
  have hd := (kind4 (s.size - i) (byteN s i) (byteN s (i + 1)) (byteN s (i + 2)) (byteN s (i + 3)) h0 h1 (byteN_lt _ _) (byteN_lt _ _) (byteN_lt _ _) (((byteN s i) - 240) * 262144 + (((byteN s (i + 1) - 128) * 64 + (byteN s (i + 2) - 128)) * 64 + (byteN s (i + 3) - 128))) rfl).1
  have hv' := valid_yes hv
  have hg := one_good (s := s) (i := i) (by rw [dec_bytes, hd (by omega)]) (.inl (by omega))
  rw [hg.1, hg.2]
  omega
theorem one3_bad (s : ByteArray) (i x : Nat) (hx : x = byteN s i) (h0 : 240 ≤ byteN s i) (h1 : byteN s i < 248) (ok : okT s (i + 1) 3 = true) (h : (((x : Int) - 240) * 262144 + (valT s (i + 1) 3 : Int)) < 65536 ∨ (!validB (((x : Int) - 240) * 262144 + (valT s (i + 1) 3 : Int))) = true) : oneR s i = 0 ∧ oneW s i = 0 := by
  have hk := ok3.1 ok
  have hw := val3 s i
  have hd := (kind4 (s.size - i) (byteN s i) (byteN s (i + 1)) (byteN s (i + 2)) (byteN s (i + 3)) h0 h1 (byteN_lt _ _) (byteN_lt _ _) (byteN_lt _ _) (((byteN s i) - 240) * 262144 + (((byteN s (i + 1) - 128) * 64 + (byteN s (i + 2) - 128)) * 64 + (byteN s (i + 3) - 128))) rfl).2
  have h' : (((x : Int) - 240) * 262144 + (valT s (i + 1) 3 : Int)) < 65536 ∨ ¬ ((0 ≤ (((x : Int) - 240) * 262144 + (valT s (i + 1) 3 : Int)) ∧ (((x : Int) - 240) * 262144 + (valT s (i + 1) 3 : Int)) < 55296) ∨ (57343 < (((x : Int) - 240) * 262144 + (valT s (i + 1) 3 : Int)) ∧ (((x : Int) - 240) * 262144 + (valT s (i + 1) 3 : Int)) ≤ 1114111)) := h.imp_right valid_no
  exact one_bad (by rw [dec_bytes, hd (by omega)])
theorem one3_none (s : ByteArray) (i : Nat) (h0 : 240 ≤ byteN s i) (h1 : byteN s i < 248) (ok : okT s (i + 1) 3 = false) : oneR s i = 0 ∧ oneW s i = 0 := by
  have hk := mt ok3.2 (by rw [ok]; simp)
  have hd := (kind4 (s.size - i) (byteN s i) (byteN s (i + 1)) (byteN s (i + 2)) (byteN s (i + 3)) h0 h1 (byteN_lt _ _) (byteN_lt _ _) (byteN_lt _ _) (((byteN s i) - 240) * 262144 + (((byteN s (i + 1) - 128) * 64 + (byteN s (i + 2) - 128)) * 64 + (byteN s (i + 3) - 128))) rfl).2
  exact one_bad (by rw [dec_bytes, hd (by omega)])
set_option maxHeartbeats 1000000 in
set_option maxRecDepth 100000 in
theorem one_any (s : ByteArray) (i : Nat) (hs : s.size ≤ 16384) (hi : i < s.size) (w : World) : Calls Tryz.prog 95 #[.string s, .int .i64 (i : Int)] w (oneTells s i w) := by
  have Hb := Lib.hid (byteN_at s i hi)
  have Hd := Lib.hid (dec_bytes s i)
  have hl := byteN_lt s i
  have hi' : (i : Int) < s.size := by omega
  by_cases c1 : byteN s i < 128
  · have t : s[i].toNat < 128 := by have := Hb.out; omega
    go_enter Tryz.func95, Tryz.ntmps95
    go_wp2_with fail
    go_ret2
    have hd := one_good (s := s) (i := i) (by rw [Hd.out, decN_one _ _ _ _ _ c1]) (.inr c1)
    exact ⟨ret_one (by rw [hd.1, Hb.out]) (by rw [hd.2]; rfl), rfl⟩
  by_cases c2 : 192 ≤ byteN s i ∧ byteN s i < 224
  · have t1 : 192 ≤ s[i].toNat := by have := Hb.out; omega
    have t2 : s[i].toNat < 224 := by have := Hb.out; omega
    obtain ⟨d0, d1⟩ := c2
    cases ok : okT s (i + 1) 1
    · have hd := one1_none s i d0 d1 ok
      have T := Lib.hid (tail_not s (i + 1) 1 ((i : Int) + 1) 1 (by omega) rfl hs (by omega) (by omega) ok)
      have HD := Lib.hid hd
      clear ok hd
      go_enter Tryz.func95, Tryz.ntmps95
      go_wp2_with (go_at_call 160; ((with_reducible refine (T.out _).mono ?_); rintro e w' ⟨rfl, rfl⟩))
      go_ret2
      exact ⟨ret_one HD.out.1.symm HD.out.2.symm, rfl⟩
    · have hv := valT_small s (i + 1) 1 (by omega) ok
      have T := Lib.hid (tail_yes s (i + 1) 1 ((i : Int) + 1) 1 (by omega) rfl hs (by omega) (by omega) ok)
      have G := Lib.hid (one1_good s i _ Hb.out d0 d1 ok)
      have N := Lib.hid (one1_bad s i _ Hb.out d0 d1 ok)
      clear ok
      go_enter Tryz.func95, Tryz.ntmps95
      go_wp2_with (first | (go_at_call 160; ((with_reducible refine (T.out _).mono ?_); rintro e w' ⟨rfl, rfl⟩)) | (go_at_call 161; ((with_reducible refine (scalar_any _ _).mono ?_); rintro e w' ⟨rfl, rfl⟩)))
      all_goals go_ret2
      · exact ⟨ret_one (N.out (by assumption)).1.symm (N.out (by assumption)).2.symm, rfl⟩
      · have hh : 128 ≤ ((s[i].toNat : Int) - 192) * 64 + (valT s (i + 1) 1 : Int) ∧ (!validB (((s[i].toNat : Int) - 192) * 64 + (valT s (i + 1) 1 : Int))) = false := by assumption
        exact ⟨ret_one (G.out hh.1 hh.2).1.symm (G.out hh.1 hh.2).2.symm, rfl⟩
      · exact ⟨ret_one (N.out (.inl (by assumption))).1.symm (N.out (.inl (by assumption))).2.symm, rfl⟩
  by_cases c3 : 224 ≤ byteN s i ∧ byteN s i < 240
  · have t1 : 224 ≤ s[i].toNat := by have := Hb.out; omega
    have t2 : s[i].toNat < 240 := by have := Hb.out; omega
    obtain ⟨d0, d1⟩ := c3
    cases ok : okT s (i + 1) 2
    · have hd := one2_none s i d0 d1 ok
      have T := Lib.hid (tail_not s (i + 1) 2 ((i : Int) + 1) 2 (by omega) rfl hs (by omega) (by omega) ok)
      have HD := Lib.hid hd
      clear ok hd
      go_enter Tryz.func95, Tryz.ntmps95
      go_wp2_with (go_at_call 160; ((with_reducible refine (T.out _).mono ?_); rintro e w' ⟨rfl, rfl⟩))
      go_ret2
      exact ⟨ret_one HD.out.1.symm HD.out.2.symm, rfl⟩
    · have hv := valT_small s (i + 1) 2 (by omega) ok
      have T := Lib.hid (tail_yes s (i + 1) 2 ((i : Int) + 1) 2 (by omega) rfl hs (by omega) (by omega) ok)
      have G := Lib.hid (one2_good s i _ Hb.out d0 d1 ok)
      have N := Lib.hid (one2_bad s i _ Hb.out d0 d1 ok)
      clear ok
      go_enter Tryz.func95, Tryz.ntmps95
      go_wp2_with (first | (go_at_call 160; ((with_reducible refine (T.out _).mono ?_); rintro e w' ⟨rfl, rfl⟩)) | (go_at_call 161; ((with_reducible refine (scalar_any _ _).mono ?_); rintro e w' ⟨rfl, rfl⟩)))
      all_goals go_ret2
      · exact ⟨ret_one (N.out (by assumption)).1.symm (N.out (by assumption)).2.symm, rfl⟩
      · have hh : 2048 ≤ ((s[i].toNat : Int) - 224) * 4096 + (valT s (i + 1) 2 : Int) ∧ (!validB (((s[i].toNat : Int) - 224) * 4096 + (valT s (i + 1) 2 : Int))) = false := by assumption
        exact ⟨ret_one (G.out hh.1 hh.2).1.symm (G.out hh.1 hh.2).2.symm, rfl⟩
      · exact ⟨ret_one (N.out (.inl (by assumption))).1.symm (N.out (.inl (by assumption))).2.symm, rfl⟩
  by_cases c4 : 240 ≤ byteN s i ∧ byteN s i < 248
  · have t1 : 240 ≤ s[i].toNat := by have := Hb.out; omega
    have t2 : s[i].toNat < 248 := by have := Hb.out; omega
    obtain ⟨d0, d1⟩ := c4
    cases ok : okT s (i + 1) 3
    · have hd := one3_none s i d0 d1 ok
      have T := Lib.hid (tail_not s (i + 1) 3 ((i : Int) + 1) 3 (by omega) rfl hs (by omega) (by omega) ok)
      have HD := Lib.hid hd
      clear ok hd
      go_enter Tryz.func95, Tryz.ntmps95
      go_wp2_with (go_at_call 160; ((with_reducible refine (T.out _).mono ?_); rintro e w' ⟨rfl, rfl⟩))
      go_ret2
      exact ⟨ret_one HD.out.1.symm HD.out.2.symm, rfl⟩
    · have hv := valT_small s (i + 1) 3 (by omega) ok
      have T := Lib.hid (tail_yes s (i + 1) 3 ((i : Int) + 1) 3 (by omega) rfl hs (by omega) (by omega) ok)
      have G := Lib.hid (one3_good s i _ Hb.out d0 d1 ok)
      have N := Lib.hid (one3_bad s i _ Hb.out d0 d1 ok)
      clear ok
      go_enter Tryz.func95, Tryz.ntmps95
      go_wp2_with (first | (go_at_call 160; ((with_reducible refine (T.out _).mono ?_); rintro e w' ⟨rfl, rfl⟩)) | (go_at_call 161; ((with_reducible refine (scalar_any _ _).mono ?_); rintro e w' ⟨rfl, rfl⟩)))
      all_goals go_ret2
      · exact ⟨ret_one (N.out (by assumption)).1.symm (N.out (by assumption)).2.symm, rfl⟩
      · have hh : 65536 ≤ ((s[i].toNat : Int) - 240) * 262144 + (valT s (i + 1) 3 : Int) ∧ (!validB (((s[i].toNat : Int) - 240) * 262144 + (valT s (i + 1) 3 : Int))) = false := by assumption
        exact ⟨ret_one (G.out hh.1 hh.2).1.symm (G.out hh.1 hh.2).2.symm, rfl⟩
      · exact ⟨ret_one (N.out (.inl (by assumption))).1.symm (N.out (.inl (by assumption))).2.symm, rfl⟩
  have hd := one_bad (s := s) (i := i) (by rw [Hd.out, kind0 _ _ _ _ _ (by omega)])
  have t1 : 128 ≤ s[i].toNat := by have := Hb.out; omega
  have HD := Lib.hid hd
  clear hd
  by_cases c5 : byteN s i < 192
  · have t2 : s[i].toNat < 192 := by have := Hb.out; omega
    go_enter Tryz.func95, Tryz.ntmps95
    go_wp2_with fail
    go_ret2
    exact ⟨ret_one HD.out.1.symm HD.out.2.symm, rfl⟩
  · have t2 : 248 ≤ s[i].toNat := by have := Hb.out; omega
    go_enter Tryz.func95, Tryz.ntmps95
    go_wp2_with fail
    go_ret2
    exact ⟨ret_one HD.out.1.symm HD.out.2.symm, rfl⟩
end Go.Proofs.YtcmnjodjebcapaaGreat
