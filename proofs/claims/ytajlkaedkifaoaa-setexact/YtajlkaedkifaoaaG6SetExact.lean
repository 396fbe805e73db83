/-
  Texts of the proof of SetExact, one behind the other.
-/
import Derived.Test.YtajlkaedkifaoaaG1SetExact
import Derived.WalkKit
import Derived.Sort.Walk0
namespace Go.Proofs.Ytajlkaedkifaoaa
open Go.RowKit Go.Lib

/-- A value. -/
structure PV where
  k : Int
  i : Int
  s : ByteArray

/-- .. a right one. -/
def okV (v : PV) : Bool :=
  if v.k = 1 then decide (v.i = 0 ∧ v.s.size = 0)
  else if v.k = 2 then decide (0 ≤ v.i ∧ v.i ≤ 1 ∧ v.s.size = 0)
  else if v.k = 3 then decide (-1152921504606846976 ≤ v.i ∧ v.i ≤ 1152921504606846976 ∧ v.s.size = 0)
  else if v.k = 4 then decide (v.i = 0 ∧ v.s.size ≤ 24)
  else false

/-- .. a right one that is small. -/
def smallV (v : PV) : Bool := okV v && (decide (v.k ≠ 3) || decide (-2147483648 ≤ v.i ∧ v.i ≤ 2147483648))

/-- .. one that fits a type. -/
def fitsV (v : PV) (t : Int) : Bool := decide (2 ≤ t ∧ t ≤ 4) && okV v && (decide (v.k = t) || decide (v.k = 1))

def sgnB (less : Bool) : Int := if less = true then -1 else 1

/-- How two are ordered: -1, 0, 1. -/
def cmpV (v u : PV) : Int :=
  if v.k ≠ u.k then sgnB (decide (v.k < u.k))
  else if v.i ≠ u.i then sgnB (decide (v.i < u.i))
  else if v.s.toList ≠ u.s.toList then sgnB (Op.bytesLess v.s.toList u.s.toList)
  else 0

theorem sgnB_range (b : Bool) : sgnB b = -1 ∨ sgnB b = 0 ∨ sgnB b = 1 := by cases b <;> simp [sgnB]

theorem sgnB_ne (b : Bool) : sgnB b ≠ 0 := by cases b <;> simp [sgnB]

theorem empty_size (s : ByteArray) : s.toList.isEmpty = decide (s.size = 0) := by
  rw [ByteArray.toList_eq, size_eq]
  cases s.data.toList <;> simp

theorem toList_inj {s t : ByteArray} (h : s.toList = t.toList) : s = t := by
  rw [ByteArray.toList_eq, ByteArray.toList_eq] at h
  cases s; cases t
  simp at h
  rw [h]

theorem PV.eq_of {v u : PV} (h1 : v.k = u.k) (h2 : v.i = u.i) (h3 : v.s.toList = u.s.toList) : v = u := by
  cases v; cases u
  have h4 := toList_inj h3
  simp at h1 h2 h4
  rw [h1, h2, h4]

theorem cmpV_self (v : PV) : cmpV v v = 0 := by simp [cmpV]

theorem cmpV_range (v u : PV) : cmpV v u = -1 ∨ cmpV v u = 0 ∨ cmpV v u = 1 := by
  unfold cmpV
  repeat' split
  all_goals first | exact sgnB_range _ | simp

theorem cmpV_zero (v u : PV) : cmpV v u = 0 ↔ v = u := by
  constructor
  · intro h
    unfold cmpV at h
    split at h
    · exact absurd h (sgnB_ne _)
    · split at h
      · exact absurd h (sgnB_ne _)
      · split at h
        · exact absurd h (sgnB_ne _)
        · exact PV.eq_of (Decidable.of_not_not ‹_›) (Decidable.of_not_not ‹_›) (Decidable.of_not_not ‹_›)
  · rintro rfl; exact cmpV_self _

/-- What is ahead. -/
def ltV (v u : PV) : Prop := v.k < u.k ∨ (v.k = u.k ∧ (v.i < u.i ∨ (v.i = u.i ∧ v.s.toList < u.s.toList)))

theorem cmpV_neg (v u : PV) : cmpV v u = -1 ↔ ltV v u := by
  unfold cmpV ltV
  by_cases h1 : v.k = u.k
  · by_cases h2 : v.i = u.i
    · by_cases h3 : v.s.toList = u.s.toList
      · simp [h1, h2, h3, List.lt_irrefl]
      · by_cases h4 : v.s.toList < u.s.toList <;> simp [sgnB, h1, h2, h3, h4, Proofs.bytesLess_eq]
    · by_cases h4 : v.i < u.i <;> simp [sgnB, h1, h2, h4]
  · by_cases h4 : v.k < u.k <;> simp [sgnB, h1, h4]

theorem ltV_trans {v u x : PV} (h : ltV v u) (h' : ltV u x) : ltV v x := by
  unfold ltV at *
  rcases h with h | ⟨e, h | ⟨e2, h⟩⟩ <;> rcases h' with h' | ⟨e', h' | ⟨e2', h'⟩⟩
  · exact .inl (by omega)
  · exact .inl (by omega)
  · exact .inl (by omega)
  · exact .inl (by omega)
  · exact .inr ⟨by omega, .inl (by omega)⟩
  · exact .inr ⟨by omega, .inl (by omega)⟩
  · exact .inl (by omega)
  · exact .inr ⟨by omega, .inl (by omega)⟩
  · exact .inr ⟨by omega, .inr ⟨by omega, List.lt_trans h h'⟩⟩

theorem ltV_irrefl (v : PV) : ¬ ltV v v := by
  unfold ltV
  rintro (h | ⟨_, h | ⟨_, h⟩⟩)
  · omega
  · omega
  · exact List.lt_irrefl _ h

theorem ltV_total (v u : PV) : ltV v u ∨ v = u ∨ ltV u v := by
  unfold ltV
  rcases Int.lt_trichotomy v.k u.k with h | h | h
  · exact .inl (.inl h)
  · rcases Int.lt_trichotomy v.i u.i with h2 | h2 | h2
    · exact .inl (.inr ⟨h, .inl h2⟩)
    · by_cases h3 : v.s.toList = u.s.toList
      · exact .inr (.inl (PV.eq_of h h2 h3))
      · by_cases h4 : v.s.toList < u.s.toList
        · exact .inl (.inr ⟨h, .inr ⟨h2, h4⟩⟩)
        · by_cases h5 : u.s.toList < v.s.toList
          · exact .inr (.inr (.inr ⟨h.symm, .inr ⟨h2.symm, h5⟩⟩))
          · exact absurd (List.le_antisymm (List.not_lt.1 h5) (List.not_lt.1 h4)) h3
    · exact .inr (.inr (.inr ⟨h.symm, .inl h2⟩))
  · exact .inr (.inr (.inl h))

theorem cmpV_pos (v u : PV) : cmpV v u = 1 ↔ ltV u v := by
  rcases ltV_total v u with h | rfl | h
  · have := (cmpV_neg v u).2 h
    rw [this]
    exact ⟨(fun h => by cases h), fun h' => absurd (ltV_trans h h') (ltV_irrefl _)⟩
  · rw [cmpV_self]
    exact ⟨(fun h => by cases h), fun h' => absurd h' (ltV_irrefl _)⟩
  · refine ⟨fun _ => h, fun _ => ?_⟩
    rcases cmpV_range v u with e | e | e
    · exact absurd (ltV_trans ((cmpV_neg v u).1 e) h) (ltV_irrefl _)
    · rw [(cmpV_zero v u).1 e] at h
      exact absurd h (ltV_irrefl _)
    · exact e

theorem cmpV_flip (v u : PV) : cmpV u v = -cmpV v u := by
  rcases ltV_total v u with h | rfl | h
  · rw [(cmpV_neg v u).2 h, (cmpV_pos u v).2 h]; rfl
  · rw [cmpV_self]; rfl
  · rw [(cmpV_neg u v).2 h, (cmpV_pos v u).2 h]

theorem cmpV_le_trans {v u x : PV} (h : cmpV v u ≤ 0) (h' : cmpV u x ≤ 0) : cmpV v x ≤ 0 := by
  rcases cmpV_range v u with e | e | e <;> rcases cmpV_range u x with e' | e' | e'
  all_goals first
    | omega
    | (have a := (cmpV_neg v u).1 e; have b := (cmpV_neg u x).1 e'; rw [(cmpV_neg v x).2 (ltV_trans a b)]; omega)
    | (have a := (cmpV_zero v u).1 e; subst a; omega)
    | (have a := (cmpV_zero u x).1 e'; subst a; omega)

end Go.Proofs.Ytajlkaedkifaoaa
