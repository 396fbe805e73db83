/-
  What is got of bytes hangs on no byte ahead of it, nor behind it: of the plain functions that wire's answers are.
-/
import Derived.Test.YtfppmdkjlmmbnaaSpec
namespace Go.Proofs.Ytfppmdkjlmmbnaa
open Go.RowKit Go.Lib

theorem all_drop (A B C : List UInt8) (k : Nat) (h : k ≤ B.length) : ((A ++ B) ++ C).drop (A.length + k) = B.drop k ++ C := by
  rw [List.append_assoc, List.drop_append, List.drop_of_length_le (by omega)]
  simp
  rw [List.drop_append_of_le_length h]

theorem all_take (A B C : List UInt8) (k m : Nat) (h : k + m ≤ B.length) : (((A ++ B) ++ C).drop (A.length + k)).take m = (B.drop k).take m := by
  rw [all_drop A B C k (by omega), List.take_append_of_le_length (by simp; omega)]

theorem all_at (A B C : List UInt8) (h : 0 < B.length) : ((A ++ B) ++ C)[A.length]?.getD 0 = B[0]?.getD 0 := by
  rw [List.append_assoc, List.getElem?_append_right (Nat.le_refl _), Nat.sub_self, List.getElem?_append_left h]

theorem rest_get (A B C : List UInt8) (size : Int) (h : (rGet B 0 size).2.2 = 0) :
    rGet ((A ++ B) ++ C) (A.length : Int) size = ((rGet B 0 size).1, (rGet B 0 size).2.1 + (A.length : Int), 0) ∧ 0 ≤ (rGet B 0 size).2.1 ∧ (rGet B 0 size).2.1 ≤ (B.length : Int) := by
  unfold rGet at h ⊢
  by_cases h1 : size < 1 ∨ 7 < size ∨ (0 : Int) < 0 ∨ (B.length : Int) < 0
  · rw [if_pos h1] at h; simp at h
  rw [if_neg h1] at h
  by_cases h2 : (B.length : Int) - 0 < size
  · rw [if_pos h2] at h; simp at h
  rw [if_neg h1, if_neg h2, if_neg (by simp; omega), if_neg (by simp; omega)]
  refine ⟨?_, by simp; omega, by simp; omega⟩
  have e := all_take A B C 0 size.toNat (by omega)
  simp only [Nat.add_zero, Int.toNat_natCast, Int.toNat_zero] at e ⊢
  rw [e]
  simp
  omega

theorem rest_int (A B C : List UInt8) (h : (rGetInt B 0).2.2 = 0) :
    rGetInt ((A ++ B) ++ C) (A.length : Int) = ((rGetInt B 0).1, (rGetInt B 0).2.1 + (A.length : Int), 0) ∧ 0 ≤ (rGetInt B 0).2.1 ∧ (rGetInt B 0).2.1 ≤ (B.length : Int) := by
  unfold rGetInt at h ⊢
  by_cases h1 : (0 : Int) < 0 ∨ (B.length : Int) < 0
  · omega
  rw [if_neg h1] at h
  by_cases h2 : (B.length : Int) - 0 < 9
  · rw [if_pos h2] at h; simp at h
  rw [if_neg h2] at h
  rw [if_neg h1, if_neg h2, if_neg (by simp; omega), if_neg (by simp; omega)]
  simp only [Int.toNat_natCast, Int.toNat_zero]
  rw [all_at A B C (by omega), all_take A B C 1 8 (by omega)]
  simp only [Int.toNat_zero] at h
  cases hs : rSign (B[0]?.getD 0).toNat (num ((B.drop (0 + 1)).take 8)) with
  | none => rw [hs] at h; simp at h
  | some v =>
    refine ⟨?_, by simp, by simp; omega⟩
    simp
    omega

theorem rest_text (A B C : List UInt8) (h : (rGetText B 0).2.2 = 0) :
    rGetText ((A ++ B) ++ C) (A.length : Int) = ((rGetText B 0).1, (rGetText B 0).2.1 + (A.length : Int), 0) ∧ 0 ≤ (rGetText B 0).2.1 ∧ (rGetText B 0).2.1 ≤ (B.length : Int) := by
  unfold rGetText at h ⊢
  by_cases h1 : (0 : Int) < 0 ∨ (B.length : Int) < 0
  · omega
  rw [if_neg h1] at h
  by_cases h2 : (0 : Int) = (B.length : Int)
  · rw [if_pos h2] at h; simp at h
  rw [if_neg h2] at h
  rw [if_neg h1, if_neg h2, if_neg (by simp; omega), if_neg (by simp; omega)]
  simp only [Int.toNat_natCast, Int.toNat_zero] at h ⊢
  rw [all_at A B C (by omega)]
  generalize B[0]?.getD 0 = x at *
  by_cases h3 : 24 < x.toNat ∨ B.length - (0 + 1) < x.toNat
  · rw [if_pos h3] at h; simp at h
  rw [if_neg h3, if_neg (by simp; omega), all_take A B C 1 x.toNat (by omega)]
  refine ⟨?_, by simp; omega, by simp; omega⟩
  simp
  omega

end Go.Proofs.Ytfppmdkjlmmbnaa
