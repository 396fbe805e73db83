/-
  Plain arithmetic of bytes: a number written in so many bytes, the highest first, and read back; no program is named here.
-/
import Derived.WalkKit
import Derived.Laws.CopyOwn
import Derived.Lib.BufferWrite
namespace Go.Proofs.Ytmolklaammfbmaa
open Go.RowKit

/-- n in k bytes, the highest first. -/
def be : Nat → Nat → List UInt8
  | _, 0 => []
  | n, k + 1 => be (n / 256) k ++ [UInt8.ofNat (n % 256)]

/-- The number that bytes are, the highest first. -/
def num (l : List UInt8) : Nat := l.foldl (fun a x => a * 256 + x.toNat) 0

theorem snoc_ind {α : Type} {P : List α → Prop} (h0 : P []) (h1 : ∀ l x, P l → P (l ++ [x])) (l : List α) : P l := by
  have h : ∀ r : List α, P r.reverse := by
    intro r
    induction r with
    | nil => exact h0
    | cons x r ih => rw [List.reverse_cons]; exact h1 _ _ ih
  have := h l.reverse
  rwa [List.reverse_reverse] at this

theorem be_length (n k : Nat) : (be n k).length = k := by
  induction k generalizing n with
  | zero => rfl
  | succ k ih => simp [be, ih]

theorem num_snoc (l : List UInt8) (x : UInt8) : num (l ++ [x]) = num l * 256 + x.toNat := by simp [num]

theorem num_nil : num [] = 0 := rfl

theorem ofNat_mod (n : Nat) : (UInt8.ofNat (n % 256)).toNat = n % 256 := by
  simp [UInt8.toNat_ofNat']

theorem num_be (n k : Nat) : num (be n k) = n % 256 ^ k := by
  induction k generalizing n with
  | zero => simp [be, num, Nat.mod_one]
  | succ k ih =>
    rw [be, num_snoc, ih, ofNat_mod, Nat.pow_succ, Nat.mul_comm (256 ^ k) 256, Nat.mod_mul]
    omega

theorem num_be_of_lt {n k : Nat} (h : n < 256 ^ k) : num (be n k) = n := by rw [num_be, Nat.mod_eq_of_lt h]

theorem num_lt (l : List UInt8) : num l < 256 ^ l.length := by
  refine snoc_ind (P := fun l => num l < 256 ^ l.length) ?_ ?_ l
  · simp [num]
  · intro l x ih
    rw [num_snoc, List.length_append, List.length_singleton, Nat.pow_succ]
    have := x.toNat_lt
    omega

theorem be_num (l : List UInt8) : be (num l) l.length = l := by
  refine snoc_ind (P := fun l => be (num l) l.length = l) ?_ ?_ l
  · rfl
  · intro l x ih
    have hx := x.toNat_lt
    have e1 : (num l * 256 + x.toNat) / 256 = num l := by omega
    have e2 : (num l * 256 + x.toNat) % 256 = x.toNat := by omega
    rw [num_snoc, List.length_append, List.length_singleton, be, e1, e2, ih]
    simp

theorem be_inj {n m k : Nat} (hn : n < 256 ^ k) (hm : m < 256 ^ k) (h : be n k = be m k) : n = m := by
  rw [← num_be_of_lt hn, h, num_be_of_lt hm]

theorem num_append (a b : List UInt8) : num (a ++ b) = num a * 256 ^ b.length + num b := by
  refine snoc_ind (P := fun b => num (a ++ b) = num a * 256 ^ b.length + num b) ?_ ?_ b
  · simp [num]
  · intro b x ih
    rw [← List.append_assoc, num_snoc, num_snoc, ih, List.length_append, List.length_singleton, Nat.pow_succ, Nat.add_mul, Nat.mul_assoc]
    omega

end Go.Proofs.Ytmolklaammfbmaa
