/-
  PadEnds' walk: what the law answers, whatever its numbers.
-/
import Derived.Test.YtdeeagphipfcaabRows
import Derived.Test.YtdeeagphipfcaabQLaws
import Derived.Test.YtdeeagphipfcaabKeep
namespace Go.Proofs.Ytdeeagphipfcaab
open Go.RowKit Go.Lib
set_option linter.unusedVariables false

theorem modQ (k : Int) (m : Nat) (h : 0 < m) (h' : m ≤ 4611686018427387904) : ∃ v : Nat, wrap64 ((IntKind.u64.wrap k).tmod (m : Int)) = (v : Int) ∧ v < m := by
  have h0 : 0 ≤ IntKind.u64.wrap k := by rw [IntKind.wrap_u64]; omega
  have h2 : (IntKind.u64.wrap k).tmod m = IntKind.u64.wrap k % m := Int.tmod_eq_emod_of_nonneg h0
  have h3 := Int.emod_nonneg (IntKind.u64.wrap k) (show (m : Int) ≠ 0 by omega)
  have h4 := Int.emod_lt_of_pos (IntKind.u64.wrap k) (show (0 : Int) < m by omega)
  refine ⟨(IntKind.u64.wrap k % m).toNat, ?_, by omega⟩
  rw [h2, IntWalk.wrap64_in _ ⟨by omega, by omega⟩]
  omega

/-- Slots of one byte each, from 0 on. -/
def rowsN (k : Nat) : List (Option (List UInt8)) := (List.range k).map fun i => some [UInt8.ofNat i]

/-- .. on a pad on which nothing has happened, the first so many safe. -/
def stN (k sf : Nat) : PadS := ⟨rowsN k, sf, false, 0, 0, [], 0⟩

theorem rowsN_length (k : Nat) : (rowsN k).length = k := by simp [rowsN]

theorem rowsN_succ (k : Nat) : rowsN (k + 1) = rowsN k ++ [some [UInt8.ofNat k]] := by simp [rowsN, List.range_succ]

theorem rowsN_take (n c : Nat) (h : c ≤ n) : (rowsN n).take c = rowsN c := by
  rw [rowsN, ← List.map_take, List.take_range, Nat.min_eq_left h]
  rfl

theorem rowsN_get (n i : Nat) (h : i < n) : (rowsN n)[i]? = some (some [UInt8.ofNat i]) := by simp [rowsN, h]

theorem stN_zero : stN 0 0 = pad0 := rfl

theorem stN_append (k sf : Nat) (h : k < 4000) : (stN k sf).append [UInt8.ofNat k] = (stN (k + 1) sf, 0) := by
  unfold PadS.append
  rw [if_neg (by simp [stN]), if_neg (by simp), if_neg (by simp [stN, rowsN_length]; omega)]
  simp [PadS.trips, stN, rowsN_succ]

theorem stN_trips (k sf : Nat) : (stN k sf).trips = (stN k sf, false) := by simp [PadS.trips, stN]

theorem stN_trim_no (k sf : Nat) (n : Int) (h : n < 0 ∨ (sf : Int) < n) : (stN k sf).trim n = (stN k sf, 1) := by
  unfold PadS.trim
  rw [if_neg (by simp [stN]), if_pos (show n < 0 ∨ ((stN k sf).safe : Int) < n from h)]

theorem stN_cut_no (k sf : Nat) (n : Int) (h : n < 0 ∨ (k : Int) < n) : (stN k sf).cut n = (stN k sf, 1) := by
  unfold PadS.cut
  rw [if_neg (by simp [stN]), if_pos (by simpa [stN, rowsN_length] using h)]

theorem stN_sync (k sf : Nat) : (stN k sf).sync = (stN k k, 0) := by
  unfold PadS.sync
  rw [if_neg (by simp [stN]), stN_trips, if_neg (by simp)]
  simp [stN, rowsN_length]

theorem stN_cut (n c : Nat) (h : c ≤ n) : (stN n n).cut (c : Int) = (stN c c, 0) := by
  unfold PadS.cut
  rw [if_neg (by simp [stN]), if_neg (by simp [stN, rowsN_length]; omega), stN_trips, if_neg (by simp)]
  simp [stN, rowsN_take n c h, h]

/-- What is left, once the first t were trimmed. -/
def stT (c t : Nat) : PadS := ⟨(rowsN c).drop t, c - t, false, 0, 0, [], 0⟩

theorem stT_length (c t : Nat) : (stT c t).slots.length = c - t := by simp [stT, rowsN_length]

theorem stN_trim (c t : Nat) (h : t ≤ c) : (stN c c).trim (t : Int) = (stT c t, 0) := by
  unfold PadS.trim
  rw [if_neg (by simp [stN]), if_neg (by simp [stN]; omega), stN_trips, if_neg (by simp)]
  simp [stN, stT]

theorem stT_read (c t i : Nat) (h : i < c - t) : (stT c t).read (i : Int) = ([UInt8.ofNat (t + i)], 0) := by
  unfold PadS.read
  rw [if_neg (by simp [stT]), if_neg (by rw [stT_length]; omega), Int.toNat_natCast]
  have e : (stT c t).slots[i]? = some (some [UInt8.ofNat (t + i)]) := by simp only [stT, List.getElem?_drop]; exact rowsN_get c (t + i) (by omega)
  rw [e]
  rfl

theorem stT_read_no (c t : Nat) : (stT c t).read ((c - t : Nat) : Int) = ([], 7) := by
  unfold PadS.read
  rw [if_neg (by simp [stT]), if_pos (.inr (by rw [stT_length]; exact Int.le_refl _))]

theorem ofNat_to {k : Nat} (h : k < 256) : ((UInt8.ofNat k).toNat : Int) = (k : Int) := by
  rw [UInt8.toNat_ofNat_of_lt' h]

end Go.Proofs.Ytdeeagphipfcaab
