/-
  PadChoice's walk: what the law answers, whatever is kept.
-/
import Derived.Test.YtdeeagphipfcaabRows
import Derived.Test.YtdeeagphipfcaabQLives
namespace Go.Proofs.Ytdeeagphipfcaab
open Go.RowKit Go.Lib
set_option linter.unusedVariables false

theorem RdO.kept {K : Nat → Prop} {w w' : World} {a : Option Addr} {L : List Bool} (h : RdO w a L) (hK : ∀ b, b < w.heap.size → K b) (hs : Stay K w w') : KeepR K w' a L := by
  intro h0
  obtain ⟨b, off, e, hc⟩ := h h0
  have hb := hK b (World.block_lt_of_cell? _ _ (hc 0 h0))
  exact ⟨b, off, e, fun i hi => (World.cell?_of_block (w := w) (a := ⟨b, off + i, none⟩) (hs.block b hb)).trans (hc i hi), .inl hb⟩

/-- How many are safe, ahead of round k. -/
def sfA (sf k : Nat) : Nat := if k ≤ sf then 0 else sf

theorem sfA_le {sf k : Nat} (h : k ≤ sf) : sfA sf k = 0 := if_pos h

theorem sfA_gt {sf k : Nat} (h : sf < k) : sfA sf k = sf := if_neg (by omega)

/-- Behind the crash. -/
def chC (keep : List Bool) (torn : Int) (sf lo : Nat) (off : Bool) : PadS := ⟨spoilTo keep torn sf lo (rowsN (sf + lo)), sf + lo, off, 1, 0, [], 0⟩

theorem chC_crash (keep : List Bool) (torn : Int) (sf lo : Nat) : (stN (sf + lo) sf).crash keep torn = chC keep torn sf lo true := by
  unfold PadS.crash
  rw [if_neg (by simp [stN])]
  simp only [stN, chC, rowsN_length]
  rw [show sf + lo - sf = lo by omega, show wrap64 (0 + 1) = 1 from by simp [wrap64]]

theorem chC_start (keep : List Bool) (torn : Int) (sf lo : Nat) : (chC keep torn sf lo true).start = chC keep torn sf lo false := rfl

theorem chC_length (keep : List Bool) (torn : Int) (sf lo : Nat) (off : Bool) : (chC keep torn sf lo off).slots.length = sf + lo := by simp [chC, spoilTo_length, rowsN_length]

theorem chC_off_read (keep : List Bool) (torn : Int) (sf lo : Nat) (i : Int) : (chC keep torn sf lo true).read i = ([], 5) := by simp [PadS.read, chC]

theorem chC_off_append (keep : List Bool) (torn : Int) (sf lo : Nat) (l : List UInt8) : (chC keep torn sf lo true).append l = (chC keep torn sf lo true, 5) := by simp [PadS.append, chC]

theorem chC_get (keep : List Bool) (torn : Int) (sf lo i : Nat) (h : i < sf + lo) : (chC keep torn sf lo false).slots[i]? = some (if sf ≤ i ∧ i < sf + lo ∧ kept keep torn (i - sf) = false then none else some [UInt8.ofNat i]) := by
  simp only [chC]
  rw [spoilTo_get, rowsN_get _ _ h]
  rfl

theorem chC_read_yes (keep : List Bool) (torn : Int) (sf lo i : Nat) (h : i < sf + lo) (hk : i < sf ∨ kept keep torn (i - sf) = true) : (chC keep torn sf lo false).read (i : Int) = ([UInt8.ofNat i], 0) := by
  have hno : ¬ (sf ≤ i ∧ i < sf + lo ∧ kept keep torn (i - sf) = false) := by
    rintro ⟨h1, _, h2⟩
    rcases hk with hk | hk
    · omega
    · rw [hk] at h2
      cases h2
  unfold PadS.read
  rw [if_neg (by simp [chC]), if_neg (by rw [chC_length]; omega), Int.toNat_natCast, chC_get _ _ _ _ _ h, if_neg hno]
  rfl

theorem chC_read_no (keep : List Bool) (torn : Int) (sf lo i : Nat) (h : i < sf + lo) (h1 : sf ≤ i) (hk : kept keep torn (i - sf) = false) : (chC keep torn sf lo false).read (i : Int) = ([], 13) := by
  unfold PadS.read
  rw [if_neg (by simp [chC]), if_neg (by rw [chC_length]; omega), Int.toNat_natCast, chC_get _ _ _ _ _ h, if_pos ⟨h1, h, hk⟩]
  rfl

end Go.Proofs.Ytdeeagphipfcaab
