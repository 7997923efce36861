/- Frames of bytes: what they are, and what reading tells of them: plain. Conditions: none. -/
import Derived.Test.YtkehojgiappiiaaGreatDoorUnhex
import Derived.Lib.IndexBytes
set_option linter.unusedVariables false
set_option linter.unusedSimpArgs false
namespace Go.Proofs.YtkehojgiappiiaaGreatDoor
open Go Go.RowKit

/-- The sum of bytes as a number. -/
def sm (l : List UInt8) : Nat := (crcL 0xb704ce#24 l).toNat
theorem sm_lt (l : List UInt8) : sm l < 16777216 := (crcL 0xb704ce#24 l).isLt
/-- A text's frame. -/
def enc (l : List UInt8) : List UInt8 := hexL l.length ++ (hexL (sm l) ++ (124 :: (l ++ [10])))
def encS (s : ByteArray) : ByteArray := ⟨(enc s.data.toList).toArray⟩
theorem hexL_len (N : Nat) : (hexL N).length = 6 := rfl
theorem enc_len (l : List UInt8) : (enc l).length = l.length + 14 := by
  simp only [enc, List.length_append, hexL_len, List.length_cons, List.length_nil]
  omega
theorem size_list (s : ByteArray) : s.data.toList.length = s.size := by simp
theorem bytes_ext {s : ByteArray} {l : List UInt8} (h : s.data.toList = l) : s = ⟨l.toArray⟩ := by rw [← h]
theorem encS_list (s : ByteArray) : (encS s).data.toList = enc s.data.toList := rfl
theorem encS_size (s : ByteArray) : (encS s).size = s.size + 14 := by
  rw [← size_list, encS_list, enc_len, size_list]
theorem encS_eq (s : ByteArray) : ((((⟨(hexL s.size).toArray⟩ : ByteArray) ++ ⟨(hexL (crcS s).toNat).toArray⟩) ++ ⟨#[124]⟩) ++ s) ++ ⟨#[10]⟩ = encS s := by
  refine bytes_ext ?_
  simp only [ByteArray.data_append, Array.toList_append, enc, size_list, List.append_assoc]
  rfl
/-- What a frame's head says. -/
def nL (l : List UInt8) : Nat × Nat := uhRes (l.take 6)
def cL (l : List UInt8) : Nat × Nat := uhRes ((l.drop 6).take 6)
def headOk (l : List UInt8) : Prop := (nL l).2 = 0 ∧ (nL l).1 ≤ 262144 ∧ (cL l).2 = 0 ∧ l.getD 12 0 = 124
instance (l : List UInt8) : Decidable (headOk l) := inferInstanceAs (Decidable (_ ∧ _))
/-- What reading a frame tells: its text, how many bytes, an error's number. -/
def tkL (l : List UInt8) : List UInt8 × Nat × Nat :=
  if l.length < 13 then ([], 0, 21)
  else if ¬ headOk l then ([], 0, 40)
  else if l.length < 14 + (nL l).1 then ([], 0, 21)
  else if l.getD (13 + (nL l).1) 0 ≠ 10 then ([], 0, 40)
  else if sm ((l.drop 13).take (nL l).1) ≠ (cL l).1 then ([], 0, 41)
  else ((l.drop 13).take (nL l).1, 14 + (nL l).1, 0)
def tkV (r : List UInt8 × Nat × Nat) : Value := .tuple #[.string ⟨r.1.toArray⟩, .int .i64 (r.2.1 : Int), .int .i64 (r.2.2 : Int)]
/-- All texts from a place on, so many at the most. -/
def allF (l : List UInt8) : Nat → Nat → List (List UInt8) × Nat
  | 0, at_ => ([], at_)
  | f + 1, at_ => if (tkL (l.drop at_)).2.2 = 0 then ((tkL (l.drop at_)).1 :: (allF l f (at_ + (tkL (l.drop at_)).2.1)).1, (allF l f (at_ + (tkL (l.drop at_)).2.1)).2) else ([], at_)
def alls (l : List UInt8) : List (List UInt8) × Nat := allF l (l.length + 1) 0
theorem allF_ok {l : List UInt8} {f at_ n : Nat} {t : List UInt8} (h : tkL (l.drop at_) = (t, n, 0)) : allF l (f + 1) at_ = (t :: (allF l f (at_ + n)).1, (allF l f (at_ + n)).2) := by
  rw [allF, h, if_pos rfl]
theorem allF_no {l : List UInt8} {f at_ : Nat} (h : (tkL (l.drop at_)).2.2 ≠ 0) : allF l f at_ = ([], at_) := by
  cases f with
  | zero => rfl
  | succ f => rw [allF, if_neg h]
theorem tkL_nil : (tkL []).2.2 ≠ 0 := by decide
/-- What is told lies within. -/
theorem tkL_ok {l t : List UInt8} {n : Nat} (h : tkL l = (t, n, 0)) : 13 ≤ l.length ∧ headOk l ∧ n = 14 + (nL l).1 ∧ n ≤ l.length ∧ l.getD (13 + (nL l).1) 0 = 10 ∧ t = (l.drop 13).take (nL l).1 ∧ sm t = (cL l).1 := by
  unfold tkL at h
  by_cases h1 : l.length < 13
  · rw [if_pos h1] at h; simp at h
  rw [if_neg h1] at h
  by_cases h2 : headOk l
  · rw [if_neg (not_not_intro h2)] at h
    by_cases h3 : l.length < 14 + (nL l).1
    · rw [if_pos h3] at h; simp at h
    rw [if_neg h3] at h
    by_cases h4 : l.getD (13 + (nL l).1) 0 = 10
    · rw [if_neg (not_not_intro h4)] at h
      by_cases h5 : sm ((l.drop 13).take (nL l).1) = (cL l).1
      · rw [if_neg (not_not_intro h5)] at h
        simp only [Prod.mk.injEq] at h
        obtain ⟨rfl, rfl, _⟩ := h
        exact ⟨by omega, h2, rfl, by omega, h4, rfl, h5⟩
      · rw [if_pos h5] at h; simp at h
    · rw [if_pos h4] at h; simp at h
  · rw [if_pos h2] at h; simp at h
theorem tkL_pos {l t : List UInt8} {n : Nat} (h : tkL l = (t, n, 0)) : 14 ≤ n ∧ n ≤ l.length := by
  obtain ⟨_, _, h3, h4, _⟩ := tkL_ok h
  omega
end Go.Proofs.YtkehojgiappiiaaGreatDoor
