/-
  Texts of one proof, in their order. No condition.
-/
import Derived.Test.YtcmnjodjebcapaaGreatFtRw
namespace Go.Proofs.YtcmnjodjebcapaaGreat
open Go.ChangeShapes Go.WideShapes Go.ChangeAt Go.RowKit
set_option linter.unusedVariables false
inductive Ty where
  | mk (kind : Int) (name : ByteArray) (parts : List Ty)
inductive Pt where
  | mk (kind line col : Int) (name : ByteArray) (num : Int) (kids : List Pt)
inductive Ex where
  | mk (kind line col num : Int) (bytes : List UInt8) (name : ByteArray) (kids : List Ex) (pats : List Pt) (bodies : List Ex)
def Ty.zero : Ty := .mk 0 ⟨#[]⟩ []
def Pt.zero : Pt := .mk 0 0 0 ⟨#[]⟩ 0 []
def Ex.zero : Ex := .mk 0 0 0 0 [] ⟨#[]⟩ [] [] []
def Ty.kind : Ty → Int | .mk k _ _ => k
def Ty.name : Ty → ByteArray | .mk _ n _ => n
def Ty.parts : Ty → List Ty | .mk _ _ ps => ps
def Pt.kind : Pt → Int | .mk k _ _ _ _ _ => k
def Pt.line : Pt → Int | .mk _ l _ _ _ _ => l
def Pt.col : Pt → Int | .mk _ _ c _ _ _ => c
def Pt.name : Pt → ByteArray | .mk _ _ _ n _ _ => n
def Pt.num : Pt → Int | .mk _ _ _ _ m _ => m
def Pt.kids : Pt → List Pt | .mk _ _ _ _ _ ks => ks
def Ex.kind : Ex → Int | .mk k _ _ _ _ _ _ _ _ => k
def Ex.line : Ex → Int | .mk _ l _ _ _ _ _ _ _ => l
def Ex.col : Ex → Int | .mk _ _ c _ _ _ _ _ _ => c
def Ex.num : Ex → Int | .mk _ _ _ m _ _ _ _ _ => m
def Ex.bytes : Ex → List UInt8 | .mk _ _ _ _ b _ _ _ _ => b
def Ex.name : Ex → ByteArray | .mk _ _ _ _ _ n _ _ _ => n
def Ex.kids : Ex → List Ex | .mk _ _ _ _ _ _ ks _ _ => ks
def Ex.pats : Ex → List Pt | .mk _ _ _ _ _ _ _ ps _ => ps
def Ex.bodies : Ex → List Ex | .mk _ _ _ _ _ _ _ _ bs => bs
def take20 (n : Nat) : Int := if (n : Int) ≤ 1048576 then n else 1048576
mutual
def lightTy : Ty → Int → Int
  | .mk _ n ps, l => lightTys ps (l - 1 - take20 n.size)
def lightTys : List Ty → Int → Int
  | [], l => l
  | t :: ts, l => if l < 0 then l else lightTys ts (lightTy t l)
end
mutual
def lightPt : Pt → Int → Int
  | .mk _ _ _ n _ ks, l => lightPts ks (l - 1 - take20 n.size)
def lightPts : List Pt → Int → Int
  | [], l => l
  | t :: ts, l => if l < 0 then l else lightPts ts (lightPt t l)
end
mutual
def lightEx : Ex → Int → Int
  | .mk _ _ _ _ b n ks ps bs, l => lightArms bs ps (lightExs ks (l - 1 - take20 b.length - take20 n.size))
def lightExs : List Ex → Int → Int
  | [], l => l
  | t :: ts, l => if l < 0 then l else lightExs ts (lightEx t l)
def lightArms : List Ex → List Pt → Int → Int
  | b :: bs, p :: ps, l => if l < 0 then l else lightArms bs ps (lightEx b (lightPt p l))
  | _, _, l => l
end
theorem take20_le (n : Nat) : 0 ≤ take20 n ∧ take20 n ≤ 1048576 := by unfold take20; split <;> omega
theorem take20_small {n : Nat} (h : take20 n ≤ 3000) : n ≤ 3000 := by unfold take20 at h; split at h <;> omega
theorem lightTys_neg (ts : List Ty) (l : Int) (h : l < 0) : lightTys ts l = l := by cases ts <;> simp [lightTys, h]
theorem lightPts_neg (ts : List Pt) (l : Int) (h : l < 0) : lightPts ts l = l := by cases ts <;> simp [lightPts, h]
theorem lightExs_neg (ts : List Ex) (l : Int) (h : l < 0) : lightExs ts l = l := by cases ts <;> simp [lightExs, h]
theorem lightArms_neg (bs : List Ex) (ps : List Pt) (l : Int) (h : l < 0) : lightArms bs ps l = l := by cases bs <;> cases ps <;> simp [lightArms, h]
mutual
def smallTy : Ty → Prop
  | .mk _ n ps => n.size ≤ 3000 ∧ ps.length ≤ 3000 ∧ smallTys ps
def smallTys : List Ty → Prop
  | [] => True
  | t :: ts => smallTy t ∧ smallTys ts
end
mutual
def smallPt : Pt → Prop
  | .mk _ _ _ n _ ks => n.size ≤ 3000 ∧ ks.length ≤ 3000 ∧ smallPts ks
def smallPts : List Pt → Prop
  | [] => True
  | t :: ts => smallPt t ∧ smallPts ts
end
mutual
def smallEx : Ex → Prop
  | .mk _ _ _ _ b n ks ps bs => b.length ≤ 3000 ∧ n.size ≤ 3000 ∧ ks.length ≤ 3000 ∧ ps.length ≤ 3000 ∧ bs.length ≤ 3000 ∧ smallExs ks ∧ smallPts ps ∧ smallExs bs
def smallExs : List Ex → Prop
  | [] => True
  | t :: ts => smallEx t ∧ smallExs ts
end
mutual
theorem lightTy_ok : ∀ (t : Ty) (l : Int), lightTy t l ≤ l - 1 ∧ (0 ≤ l → -1048577 ≤ lightTy t l) ∧ (l < 0 → l - 1048577 ≤ lightTy t l) ∧ (l ≤ 3000 → 0 ≤ lightTy t l → smallTy t)
  | .mk k n ps, l => by
    have hn := take20_le n.size
    obtain ⟨h1, h2, h3, h4⟩ := lightTys_ok ps (l - 1 - take20 n.size)
    unfold lightTy smallTy
    refine ⟨by omega, fun h => ?_, fun h => ?_, fun h h0 => ?_⟩
    · by_cases hl : l - 1 - take20 n.size < 0
      · rw [lightTys_neg _ _ hl]; omega
      · have := h2 (by omega); omega
    · rw [lightTys_neg _ _ (by omega)]; omega
    · have := h4 (by omega) h0
      exact ⟨take20_small (by omega), by omega, this⟩
theorem lightTys_ok : ∀ (ts : List Ty) (l : Int), lightTys ts l ≤ l ∧ (0 ≤ l → -1048577 ≤ lightTys ts l) ∧ (0 ≤ lightTys ts l → (ts.length : Int) ≤ l) ∧ (l ≤ 3000 → 0 ≤ lightTys ts l → smallTys ts)
  | [], l => by unfold lightTys smallTys; refine ⟨by omega, fun h => by omega, fun h => by simpa using h, fun _ _ => trivial⟩
  | t :: ts, l => by
    unfold lightTys smallTys
    split
    · rename_i h
      exact ⟨by omega, fun h => by omega, fun h => by omega, fun _ h => by omega⟩
    · rename_i h
      obtain ⟨a1, a2, a3, a4⟩ := lightTy_ok t l
      obtain ⟨b1, b2, b3, b4⟩ := lightTys_ok ts (lightTy t l)
      refine ⟨by omega, fun _ => ?_, fun h0 => ?_, fun hl h0 => ?_⟩
      · by_cases hn : lightTy t l < 0
        · rw [lightTys_neg _ _ hn]; exact a2 (by omega)
        · exact b2 (by omega)
      · have := b3 h0; simp; omega
      · by_cases hn : lightTy t l < 0
        · rw [lightTys_neg _ _ hn] at h0; omega
        · exact ⟨a4 hl (by omega), b4 (by omega) h0⟩
end
mutual
theorem lightPt_ok : ∀ (t : Pt) (l : Int), lightPt t l ≤ l - 1 ∧ (0 ≤ l → -1048577 ≤ lightPt t l) ∧ (l < 0 → l - 1048577 ≤ lightPt t l) ∧ (l ≤ 3000 → 0 ≤ lightPt t l → smallPt t)
  | .mk k li co n m ps, l => by
    have hn := take20_le n.size
    obtain ⟨h1, h2, h3, h4⟩ := lightPts_ok ps (l - 1 - take20 n.size)
    unfold lightPt smallPt
    refine ⟨by omega, fun h => ?_, fun h => ?_, fun h h0 => ?_⟩
    · by_cases hl : l - 1 - take20 n.size < 0
      · rw [lightPts_neg _ _ hl]; omega
      · have := h2 (by omega); omega
    · rw [lightPts_neg _ _ (by omega)]; omega
    · have := h4 (by omega) h0
      exact ⟨take20_small (by omega), by omega, this⟩
theorem lightPts_ok : ∀ (ts : List Pt) (l : Int), lightPts ts l ≤ l ∧ (0 ≤ l → -1048577 ≤ lightPts ts l) ∧ (0 ≤ lightPts ts l → (ts.length : Int) ≤ l) ∧ (l ≤ 3000 → 0 ≤ lightPts ts l → smallPts ts)
  | [], l => by unfold lightPts smallPts; refine ⟨by omega, fun h => by omega, fun h => by simpa using h, fun _ _ => trivial⟩
  | t :: ts, l => by
    unfold lightPts smallPts
    split
    · rename_i h
      exact ⟨by omega, fun h => by omega, fun h => by omega, fun _ h => by omega⟩
    · rename_i h
      obtain ⟨a1, a2, a3, a4⟩ := lightPt_ok t l
      obtain ⟨b1, b2, b3, b4⟩ := lightPts_ok ts (lightPt t l)
      refine ⟨by omega, fun _ => ?_, fun h0 => ?_, fun hl h0 => ?_⟩
      · by_cases hn : lightPt t l < 0
        · rw [lightPts_neg _ _ hn]; exact a2 (by omega)
        · exact b2 (by omega)
      · have := b3 h0; simp; omega
      · by_cases hn : lightPt t l < 0
        · rw [lightPts_neg _ _ hn] at h0; omega
        · exact ⟨a4 hl (by omega), b4 (by omega) h0⟩
end
mutual
def wfEx : Ex → Prop
  | .mk _ _ _ _ _ _ ks ps bs => ps.length = bs.length ∧ wfExs ks ∧ wfExs bs
def wfExs : List Ex → Prop
  | [] => True
  | t :: ts => wfEx t ∧ wfExs ts
end
mutual
theorem lightEx_ok : ∀ (t : Ex) (l : Int), lightEx t l ≤ l - 1 ∧ (0 ≤ l → -4194304 ≤ lightEx t l) ∧ (l < 0 → l - 2097153 ≤ lightEx t l) ∧ (l ≤ 3000 → 0 ≤ lightEx t l → wfEx t → smallEx t)
  | .mk k li co m b n ks ps bs, l => by
    have hn := take20_le n.size
    have hb := take20_le b.length
    obtain ⟨h1, h2, h3, h4⟩ := lightExs_ok ks (l - 1 - take20 b.length - take20 n.size)
    obtain ⟨g1, g2, g3, g4⟩ := lightArms_ok bs ps (lightExs ks (l - 1 - take20 b.length - take20 n.size))
    unfold lightEx smallEx wfEx
    refine ⟨by omega, fun h => ?_, fun h => ?_, fun h h0 he => ?_⟩
    · by_cases hl : l - 1 - take20 b.length - take20 n.size < 0
      · rw [lightExs_neg _ _ hl, lightArms_neg _ _ _ hl]; omega
      · have := h2 (by omega)
        by_cases hl2 : lightExs ks (l - 1 - take20 b.length - take20 n.size) < 0
        · rw [lightArms_neg _ _ _ hl2]; omega
        · have := g2 (by omega); omega
    · rw [lightExs_neg _ _ (by omega), lightArms_neg _ _ _ (by omega)]; omega
    · obtain ⟨e1, e2, e3⟩ := he
      by_cases hl : lightExs ks (l - 1 - take20 b.length - take20 n.size) < 0
      · rw [lightArms_neg _ _ _ hl] at h0; omega
      · have k3 := h3 (by omega)
        have k4 := h4 (by omega) (by omega) e2
        have m3 := g3 h0 e1
        have m4 := g4 (by omega) h0 e1 e3
        exact ⟨take20_small (by omega), take20_small (by omega), by omega, by omega, by omega, k4, m4.1, m4.2⟩
theorem lightExs_ok : ∀ (ts : List Ex) (l : Int), lightExs ts l ≤ l ∧ (0 ≤ l → -4194304 ≤ lightExs ts l) ∧ (0 ≤ lightExs ts l → (ts.length : Int) ≤ l) ∧ (l ≤ 3000 → 0 ≤ lightExs ts l → wfExs ts → smallExs ts)
  | [], l => by unfold lightExs smallExs; refine ⟨by omega, fun h => by omega, fun h => by simpa using h, fun _ _ _ => trivial⟩
  | t :: ts, l => by
    unfold lightExs smallExs wfExs
    split
    · rename_i h
      exact ⟨by omega, fun h => by omega, fun h => by omega, fun _ h => by omega⟩
    · rename_i h
      obtain ⟨a1, a2, a3, a4⟩ := lightEx_ok t l
      obtain ⟨b1, b2, b3, b4⟩ := lightExs_ok ts (lightEx t l)
      refine ⟨by omega, fun _ => ?_, fun h0 => ?_, fun hl h0 he => ?_⟩
      · by_cases hn : lightEx t l < 0
        · rw [lightExs_neg _ _ hn]; exact a2 (by omega)
        · exact b2 (by omega)
      · have := b3 h0; simp; omega
      · by_cases hn : lightEx t l < 0
        · rw [lightExs_neg _ _ hn] at h0; omega
        · exact ⟨a4 hl (by omega) he.1, b4 (by omega) h0 he.2⟩
theorem lightArms_ok : ∀ (bs : List Ex) (ps : List Pt) (l : Int), lightArms bs ps l ≤ l ∧ (0 ≤ l → -4194304 ≤ lightArms bs ps l) ∧ (0 ≤ lightArms bs ps l → ps.length = bs.length → (bs.length : Int) ≤ l) ∧ (l ≤ 3000 → 0 ≤ lightArms bs ps l → ps.length = bs.length → wfExs bs → smallPts ps ∧ smallExs bs)
  | [], ps, l => by
    unfold lightArms
    refine ⟨by omega, fun h => by omega, fun h _ => by simpa using h, fun _ _ he _ => ?_⟩
    cases ps with
    | nil => simp [smallPts, smallExs]
    | cons p ps => simp at he
  | b :: bs, [], l => by unfold lightArms; refine ⟨by omega, fun h => by omega, fun h h1 => by simp at h1, fun _ _ h1 => by simp at h1⟩
  | b :: bs, p :: ps, l => by
    unfold lightArms smallPts smallExs wfExs
    split
    · rename_i h
      exact ⟨by omega, fun h => by omega, fun h => by omega, fun _ h => by omega⟩
    · rename_i h
      obtain ⟨c1, c2, c3, c4⟩ := lightPt_ok p l
      obtain ⟨a1, a2, a3, a4⟩ := lightEx_ok b (lightPt p l)
      obtain ⟨b1, b2, b3, b4⟩ := lightArms_ok bs ps (lightEx b (lightPt p l))
      refine ⟨by omega, fun _ => ?_, fun h0 he => ?_, fun hl h0 he hw => ?_⟩
      · have := c2 (by omega)
        by_cases hn : lightEx b (lightPt p l) < 0
        · rw [lightArms_neg _ _ _ hn]
          by_cases hp : lightPt p l < 0
          · have := a3 hp; omega
          · exact a2 (by omega)
        · exact b2 (by omega)
      · have := b3 h0 (by simpa using he); simp; omega
      · by_cases hn : lightEx b (lightPt p l) < 0
        · rw [lightArms_neg _ _ _ hn] at h0; omega
        · have d := b4 (by omega) h0 (by simpa using he) hw.2
          exact ⟨⟨c4 hl (by omega), d.1⟩, a4 (by omega) (by omega) hw.1, d.2⟩
end
def bInt : ByteArray := ⟨#[105, 110, 116]⟩
def bBytes : ByteArray := ⟨#[98, 121, 116, 101, 115]⟩
def bLen : ByteArray := ⟨#[108, 101, 110]⟩
def bAt : ByteArray := ⟨#[97, 116]⟩
def bCat : ByteArray := ⟨#[99, 97, 116]⟩
def bCut : ByteArray := ⟨#[99, 117, 116]⟩
def bState : ByteArray := ⟨#[115, 116, 97, 116, 101]⟩
def isOne (s t : ByteArray) : Bool := s.data.toList == t.data.toList
def dataB (s : ByteArray) : Bool := !isOne s bInt && (!isOne s bBytes && namedB s false)
def funB (s : ByteArray) : Bool := !isOne s bLen && (!isOne s bAt && (!isOne s bCat && (!isOne s bCut && dataB s)))
def varB (s : ByteArray) : Bool := isOne s bState || namedB s false
def noneB (s : ByteArray) : Bool := isOne s ⟨#[]⟩
def inB (a b n : Int) : Bool := decide (a ≤ n) && decide (n ≤ b)
def numB (n : Int) : Bool := inB (-4611686018427387903) 4611686018427387903 n
def shapePt (k : Int) (n : ByteArray) (m : Int) (l : Nat) : Bool :=
  if k = 0 then noneB n && (decide (m = 0) && decide (l = 0)) else if k = 1 then namedB n false && (decide (m = 0) && decide (l = 0)) else if k = 2 then noneB n && (numB m && decide (l = 0))
  else if k = 3 then namedB n true && (decide (m = 0) && inB 0 6 l) else if k = 4 then noneB n && (decide (m = 0) && inB 2 6 l) else false
def fitPt : Nat → Pt → Bool
  | 0, _ => false
  | d + 1, .mk k _ _ n m ks => shapePt k n m ks.length && ks.all (fitPt d)
def argsOf (m : Int) : Int := if m = 8 then 1 else if m = 11 then 3 else 2
def shapeEx (k m : Int) (b : Nat) (n : ByteArray) (l r : Nat) : Bool :=
  if k = 0 then noneB n && (numB m && (decide (b = 0) && (decide (l = 0) && decide (r = 0))))
  else if k = 1 then noneB n && (decide (m = 0) && (inB 0 64 b && (decide (l = 0) && decide (r = 0))))
  else if k = 2 then varB n && (decide (m = 0) && (decide (b = 0) && (decide (l = 0) && decide (r = 0))))
  else if k = 3 then namedB n true && (decide (m = 0) && (decide (b = 0) && (inB 0 6 l && decide (r = 0))))
  else if k = 4 then noneB n && (decide (m = 0) && (decide (b = 0) && (inB 2 6 l && decide (r = 0))))
  else if k = 5 then funB n && (decide (m = 0) && (decide (b = 0) && (inB 1 6 l && decide (r = 0))))
  else if k = 6 then namedB n false && (decide (m = 0) && (decide (b = 0) && (decide (l = 2) && decide (r = 0))))
  else if k = 7 then noneB n && (decide (m = 0) && (decide (b = 0) && (decide (l = 3) && decide (r = 0))))
  else if k = 8 then noneB n && (decide (m = 0) && (decide (b = 0) && (decide (l = 1) && inB 1 32 r)))
  else if k = 9 then noneB n && (inB 0 11 m && (decide (b = 0) && (decide ((l : Int) = argsOf m) && decide (r = 0))))
  else if k = 10 then namedB n false && (inB 0 1000 m && (decide (b = 0) && (decide (l = 2) && decide (r = 0))))
  else false
def fitEx : Nat → Ex → Bool
  | 0, _ => false
  | d + 1, .mk k _ _ m b n ks ps bs => shapeEx k m b.length n ks.length bs.length && (ks.all (fitEx d) && (ps.all (fitPt d) && bs.all (fitEx d)))
end Go.Proofs.YtcmnjodjebcapaaGreat
