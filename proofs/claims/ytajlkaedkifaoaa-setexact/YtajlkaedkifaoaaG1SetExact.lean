/-
  Texts of the proof of SetExact, one behind the other.
-/
import Derived.WalkKit
import Derived.Laws.CopyOwn
import Derived.Lib.BufferWrite
namespace Go.Proofs.Ytajlkaedkifaoaa
open Go.RowKit

/-- n in k bytes, the highest first. -/
def be : Nat → Nat → List UInt8
  | _, 0 => []
  | n, k + 1 => be (n / 256) k ++ [UInt8.ofNat (n % 256)]

/-- The number that bytes are, the highest first. -/
def num (l : List UInt8) : Nat := l.foldl (fun a x => a * 256 + x.toNat) 0

theorem snoc_ind {α : Type} {P : List α → Prop} (h0 : P []) (h1 : ∀ l x, P l → P (l ++ [x])) (l : List α) : P l := by
  have h : ∀ r : List α, P r.reverse := by
    intro r
    induction r with
    | nil => exact h0
    | cons x r ih => rw [List.reverse_cons]; exact h1 _ _ ih
  have := h l.reverse
  rwa [List.reverse_reverse] at this

theorem be_length (n k : Nat) : (be n k).length = k := by
  induction k generalizing n with
  | zero => rfl
  | succ k ih => simp [be, ih]

theorem num_snoc (l : List UInt8) (x : UInt8) : num (l ++ [x]) = num l * 256 + x.toNat := by simp [num]

theorem num_nil : num [] = 0 := rfl

theorem ofNat_mod (n : Nat) : (UInt8.ofNat (n % 256)).toNat = n % 256 := by
  simp [UInt8.toNat_ofNat']

theorem num_be (n k : Nat) : num (be n k) = n % 256 ^ k := by
  induction k generalizing n with
  | zero => simp [be, num, Nat.mod_one]
  | succ k ih =>
    rw [be, num_snoc, ih, ofNat_mod, Nat.pow_succ, Nat.mul_comm (256 ^ k) 256, Nat.mod_mul]
    omega

theorem num_be_of_lt {n k : Nat} (h : n < 256 ^ k) : num (be n k) = n := by rw [num_be, Nat.mod_eq_of_lt h]

theorem num_lt (l : List UInt8) : num l < 256 ^ l.length := by
  refine snoc_ind (P := fun l => num l < 256 ^ l.length) ?_ ?_ l
  · simp [num]
  · intro l x ih
    rw [num_snoc, List.length_append, List.length_singleton, Nat.pow_succ]
    have := x.toNat_lt
    omega

theorem be_num (l : List UInt8) : be (num l) l.length = l := by
  refine snoc_ind (P := fun l => be (num l) l.length = l) ?_ ?_ l
  · rfl
  · intro l x ih
    have hx := x.toNat_lt
    have e1 : (num l * 256 + x.toNat) / 256 = num l := by omega
    have e2 : (num l * 256 + x.toNat) % 256 = x.toNat := by omega
    rw [num_snoc, List.length_append, List.length_singleton, be, e1, e2, ih]
    simp

theorem be_inj {n m k : Nat} (hn : n < 256 ^ k) (hm : m < 256 ^ k) (h : be n k = be m k) : n = m := by
  rw [← num_be_of_lt hn, h, num_be_of_lt hm]

theorem num_append (a b : List UInt8) : num (a ++ b) = num a * 256 ^ b.length + num b := by
  refine snoc_ind (P := fun b => num (a ++ b) = num a * 256 ^ b.length + num b) ?_ ?_ b
  · simp [num]
  · intro b x ih
    rw [← List.append_assoc, num_snoc, num_snoc, ih, List.length_append, List.length_singleton, Nat.pow_succ, Nat.add_mul, Nat.mul_assoc]
    omega

end Go.Proofs.Ytajlkaedkifaoaa

namespace Go.Proofs.Ytajlkaedkifaoaa
set_option linter.unusedVariables false

/-- The number at a place. -/
def atD (N : List Int) (p : Int) : Int := N[p.toNat]?.getD 0

/-- Is it a place? -/
def placeD (N : List Int) (p : Int) : Bool := decide (0 ≤ p ∧ p ≤ (N.length : Int) - 1)

/-- Is each number one that may be? -/
def rightD (N : List Int) : Bool := N.all fun x => decide (0 ≤ x ∧ x ≤ 1073741824)

def errD (N : List Int) : Int := if rightD N = true then 0 else 1

/-- Check. -/
def chkD (N : List Int) : Int := if N.length < 1 ∨ 5 < N.length then 2 else errD N

/-- Has, Next. -/
def hasD (N : List Int) (p k : Int) : Bool := placeD N p && decide (1 ≤ k ∧ k ≤ atD N p)
def nextD (N : List Int) (p k : Int) : Bool := placeD N p && decide (k = atD N p + 1)

/-- Add. -/
def addD (N : List Int) (p k : Int) : List Int × Int :=
  if chkD N ≠ 0 then ([], chkD N) else if nextD N p k = true ∧ k ≤ 1073741824 then (N.set p.toNat k, 0) else ([], 1)

/-- Le. -/
def leD : List Int → List Int → Bool
  | [], [] => true
  | a :: A, b :: B => decide (a ≤ b) && leD A B
  | _, _ => false

/-- At each place the greater, the lesser one. -/
def maxD (A B : List Int) : List Int := A.zipWith max B
def minD (A B : List Int) : List Int := A.zipWith min B

/-- Merge. -/
def mergeD (A B : List Int) : List Int × Int :=
  if chkD A ≠ 0 then ([], chkD A) else if chkD B ≠ 0 then ([], chkD B) else if A.length ≠ B.length then ([], 2) else (maxD A B, 0)

/-- The first error of several. -/
def chksD : List (List Int) → Int
  | [] => 0
  | v :: L => if chkD v ≠ 0 then chkD v else chksD L

/-- Have all as many? -/
def evenD (n : Nat) (L : List (List Int)) : Bool := L.all fun v => decide (v.length = n)

/-- Least. -/
def leastD (L : List (List Int)) : List Int × Int :=
  match L with
  | [] => ([], 2)
  | v :: L => if chksD (v :: L) ≠ 0 then ([], chksD (v :: L)) else if evenD v.length (v :: L) = true then ((v :: L).foldl minD v, 0) else ([], 2)

/-- Less. -/
def lessD (p k p' k' : Int) : Bool := decide (p < p' ∨ p = p' ∧ k < k')

/-- Numbers that an int may be. -/
def In64 (x : Int) : Prop := -9223372036854775808 ≤ x ∧ x ≤ 9223372036854775807
def All64 (N : List Int) : Prop := ∀ x ∈ N, In64 x

theorem in64 {x : Int} (h : -4294967296 ≤ x ∧ x ≤ 4294967296) : In64 x := by unfold In64; omega

theorem errD_ok {N : List Int} (h : rightD N = true) : errD N = 0 := by simp only [errD, h, if_true]
theorem errD_no {N : List Int} (h : rightD N = false) : errD N = 1 := by simp only [errD, h]; rfl

theorem chkD_ok {N : List Int} : chkD N = 0 ↔ 1 ≤ N.length ∧ N.length ≤ 5 ∧ rightD N = true := by
  unfold chkD errD
  by_cases h : N.length < 1 ∨ 5 < N.length
  · rw [if_pos h]; omega
  · rw [if_neg h]
    cases hr : rightD N <;> simp <;> omega

theorem rightD_at {N : List Int} (h : rightD N = true) {i : Nat} (hi : i < N.length) : 0 ≤ N[i] ∧ N[i] ≤ 1073741824 := by
  unfold rightD at h
  rw [List.all_eq_true] at h
  simpa using h _ (List.getElem_mem hi)

theorem rightD_iff {N : List Int} : rightD N = true ↔ ∀ i (hi : i < N.length), 0 ≤ N[i] ∧ N[i] ≤ 1073741824 := by
  refine ⟨fun h i hi => rightD_at h hi, fun h => ?_⟩
  unfold rightD
  rw [List.all_eq_true]
  intro x hx
  obtain ⟨i, hi, rfl⟩ := List.mem_iff_getElem.1 hx
  simpa using h i hi

theorem right64 {N : List Int} (h : rightD N = true) : All64 N := by
  intro x hx
  obtain ⟨i, hi, rfl⟩ := List.mem_iff_getElem.1 hx
  have := rightD_at h hi
  unfold In64
  omega

theorem leD_iff : ∀ {A B : List Int}, leD A B = true ↔ A.length = B.length ∧ ∀ i (h1 : i < A.length) (h2 : i < B.length), A[i] ≤ B[i]
  | [], [] => by simp [leD]
  | [], _ :: _ => by simp [leD]
  | _ :: _, [] => by simp [leD]
  | a :: A, b :: B => by
    simp only [leD, Bool.and_eq_true, decide_eq_true_eq, leD_iff (A := A) (B := B), List.length_cons, Nat.add_right_cancel_iff]
    constructor
    · rintro ⟨h0, hl, h⟩
      refine ⟨hl, fun i h1 h2 => ?_⟩
      cases i with
      | zero => exact h0
      | succ i => exact h i (by simpa using h1) (by simpa using h2)
    · rintro ⟨hl, h⟩
      exact ⟨h 0 (by simp) (by simp), hl, fun i h1 h2 => h (i + 1) (by simpa using h1) (by simpa using h2)⟩

theorem leD_of {A B : List Int} (hl : A.length = B.length) (h : ∀ i (h1 : i < A.length) (h2 : i < B.length), A[i] ≤ B[i]) : leD A B = true := leD_iff.2 ⟨hl, h⟩

theorem leD_len {A B : List Int} (h : A.length ≠ B.length) : leD A B = false := by
  cases hh : leD A B with
  | false => rfl
  | true => exact absurd (leD_iff.1 hh).1 h

theorem maxD_len {A B : List Int} (h : A.length = B.length) : (maxD A B).length = A.length := by simp [maxD]; omega
theorem minD_len {A B : List Int} (h : A.length = B.length) : (minD A B).length = A.length := by simp [minD]; omega

theorem maxD_at {A B : List Int} {i : Nat} (h1 : i < A.length) (h2 : i < B.length) (h : i < (maxD A B).length) : (maxD A B)[i] = max A[i] B[i] := by simp [maxD]
theorem minD_at {A B : List Int} {i : Nat} (h1 : i < A.length) (h2 : i < B.length) (h : i < (minD A B).length) : (minD A B)[i] = min A[i] B[i] := by simp [minD]

theorem maxD_comm (A B : List Int) : maxD A B = maxD B A := by
  unfold maxD
  apply List.ext_getElem
  · simp; omega
  · intro i h1 h2
    simp
    omega

theorem atD_at {N : List Int} {p : Int} (h : placeD N p = true) : ∃ (q : Nat) (hq : q < N.length), p = q ∧ atD N p = N[q] := by
  unfold placeD at h
  simp at h
  refine ⟨p.toNat, by omega, by omega, ?_⟩
  unfold atD
  rw [List.getElem?_eq_getElem (by omega)]
  rfl

theorem placeD_eq {A B : List Int} (h : A.length = B.length) (p : Int) : placeD A p = placeD B p := by unfold placeD; rw [h]

theorem atD_max {A B : List Int} (h : A.length = B.length) {p : Int} (hp : placeD A p = true) : atD (maxD A B) p = max (atD A p) (atD B p) := by
  obtain ⟨q, hq, rfl, e⟩ := atD_at hp
  have hp2 : placeD B (q : Int) = true := by rw [← placeD_eq h]; exact hp
  have hp3 : placeD (maxD A B) (q : Int) = true := by rw [placeD_eq (maxD_len h)]; exact hp
  obtain ⟨q2, hq2, e2, f2⟩ := atD_at hp2
  obtain ⟨q3, hq3, e3, f3⟩ := atD_at hp3
  obtain rfl : q = q2 := by omega
  obtain rfl : q = q3 := by omega
  rw [e, f2, f3, maxD_at hq hq2]

theorem atD_min {A B : List Int} (h : A.length = B.length) {p : Int} (hp : placeD A p = true) : atD (minD A B) p = min (atD A p) (atD B p) := by
  obtain ⟨q, hq, rfl, e⟩ := atD_at hp
  have hp2 : placeD B (q : Int) = true := by rw [← placeD_eq h]; exact hp
  have hp3 : placeD (minD A B) (q : Int) = true := by rw [placeD_eq (minD_len h)]; exact hp
  obtain ⟨q2, hq2, e2, f2⟩ := atD_at hp2
  obtain ⟨q3, hq3, e3, f3⟩ := atD_at hp3
  obtain rfl : q = q2 := by omega
  obtain rfl : q = q3 := by omega
  rw [e, f2, f3, minD_at hq hq2]

theorem le_max_left {A B : List Int} (h : A.length = B.length) : leD A (maxD A B) = true := leD_of (maxD_len h).symm fun i h1 h2 => by rw [maxD_at h1 (by omega)]; omega
theorem le_max_right {A B : List Int} (h : A.length = B.length) : leD B (maxD A B) = true := leD_of (by rw [maxD_len h, h]) fun i h1 h2 => by rw [maxD_at (by omega) h1]; omega
theorem min_le_left {A B : List Int} (h : A.length = B.length) : leD (minD A B) A = true := leD_of (minD_len h) fun i h1 h2 => by rw [minD_at h2 (by omega)]; omega
theorem min_le_right {A B : List Int} (h : A.length = B.length) : leD (minD A B) B = true := leD_of (by rw [minD_len h, h]) fun i h1 h2 => by rw [minD_at (by omega) h2]; omega

theorem leD_trans {A B C : List Int} (h : leD A B = true) (h' : leD B C = true) : leD A C = true := by
  obtain ⟨e, h⟩ := leD_iff.1 h
  obtain ⟨e', h'⟩ := leD_iff.1 h'
  exact leD_of (by omega) fun i h1 h2 => Int.le_trans (h i h1 (by omega)) (h' i (by omega) h2)

theorem leD_refl (A : List Int) : leD A A = true := leD_of rfl fun i _ _ => Int.le_refl _

theorem max_le {A B C : List Int} (h : A.length = B.length) : leD (maxD A B) C = (leD A C && leD B C) := by
  rw [Bool.eq_iff_iff, Bool.and_eq_true]
  constructor
  · intro hh
    exact ⟨leD_trans (le_max_left h) hh, leD_trans (le_max_right h) hh⟩
  · rintro ⟨h1, h2⟩
    obtain ⟨e1, h1⟩ := leD_iff.1 h1
    obtain ⟨e2, h2⟩ := leD_iff.1 h2
    refine leD_of (by rw [maxD_len h]; exact e1) fun i k1 k2 => ?_
    rw [maxD_at (by omega) (by omega)]
    have := h1 i (by omega) k2
    have := h2 i (by omega) k2
    omega

theorem le_iff_max {A B : List Int} (h : A.length = B.length) : leD A B = decide (maxD A B = B) := by
  rw [Bool.eq_iff_iff, decide_eq_true_eq]
  constructor
  · intro hh
    obtain ⟨_, hh⟩ := leD_iff.1 hh
    apply List.ext_getElem
    · rw [maxD_len h, h]
    · intro i h1 h2
      rw [maxD_at (by omega) h2]
      have := hh i (by omega) h2
      omega
  · intro hh
    have := le_max_left h
    rwa [hh] at this

theorem has_max {A B : List Int} (h : A.length = B.length) (p k : Int) : hasD (maxD A B) p k = (hasD A p k || hasD B p k) := by
  unfold hasD
  rw [placeD_eq (maxD_len h), ← placeD_eq h]
  cases hp : placeD A p with
  | false => simp
  | true =>
    rw [atD_max h hp]
    simp only [Bool.true_and]
    rw [Bool.eq_iff_iff]
    simp
    omega

theorem has_min {A B : List Int} (h : A.length = B.length) (p k : Int) : hasD (minD A B) p k = (hasD A p k && hasD B p k) := by
  unfold hasD
  rw [placeD_eq (minD_len h), ← placeD_eq h]
  cases hp : placeD A p with
  | false => simp
  | true =>
    rw [atD_min h hp]
    simp only [Bool.true_and]
    rw [Bool.eq_iff_iff]
    simp
    omega

theorem has_le {A B : List Int} (h : leD A B = true) {p k : Int} (hh : hasD A p k = true) : hasD B p k = true := by
  obtain ⟨e, h⟩ := leD_iff.1 h
  unfold hasD at hh ⊢
  rw [Bool.and_eq_true] at hh ⊢
  obtain ⟨h1, h2⟩ := hh
  refine ⟨by rw [← placeD_eq e]; exact h1, ?_⟩
  obtain ⟨q, hq, rfl, e1⟩ := atD_at h1
  obtain ⟨q2, hq2, e2, f2⟩ := atD_at (N := B) (p := (q : Int)) (by rw [← placeD_eq e]; exact h1)
  obtain rfl : q = q2 := by omega
  have := h q hq hq2
  simp at h2 ⊢
  omega

/-- Several vectors of n numbers, taken together one by one. -/
theorem fold_len {n : Nat} : ∀ {L : List (List Int)} {v : List Int}, v.length = n → evenD n L = true → (L.foldl minD v).length = n
  | [], v, hv, _ => hv
  | u :: L, v, hv, h => by
    simp only [evenD, List.all_cons, Bool.and_eq_true, decide_eq_true_eq] at h
    exact fold_len (L := L) (v := minD v u) (by rw [minD_len (by omega)]; exact hv) h.2

theorem fold_le {n : Nat} : ∀ {L : List (List Int)} {v : List Int}, v.length = n → evenD n L = true → leD (L.foldl minD v) v = true
  | [], v, _, _ => leD_refl v
  | u :: L, v, hv, h => by
    simp only [evenD, List.all_cons, Bool.and_eq_true, decide_eq_true_eq] at h
    exact leD_trans (fold_le (L := L) (v := minD v u) (by rw [minD_len (by omega)]; exact hv) h.2) (min_le_left (by omega))

theorem fold_mem {n : Nat} : ∀ {L : List (List Int)} {v : List Int}, v.length = n → evenD n L = true → ∀ u ∈ L, leD (L.foldl minD v) u = true
  | [], _, _, _, u, hu => by cases hu
  | x :: L, v, hv, h, u, hu => by
    simp only [evenD, List.all_cons, Bool.and_eq_true, decide_eq_true_eq] at h
    have hm : (minD v x).length = n := by rw [minD_len (by omega)]; exact hv
    rcases List.mem_cons.1 hu with rfl | hu
    · exact leD_trans (fold_le (L := L) hm h.2) (min_le_right (by omega))
    · exact fold_mem (L := L) hm h.2 u hu

theorem minD_self (v : List Int) : minD v v = v := by
  unfold minD
  apply List.ext_getElem
  · simp
  · intro i h1 h2; simp

end Go.Proofs.Ytajlkaedkifaoaa
