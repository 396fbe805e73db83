/-
  PadLives' walk: what the law answers, whatever its number.
-/
import Derived.Test.YtdeeagphipfcaabRows
import Derived.Test.YtdeeagphipfcaabQEnds
namespace Go.Proofs.Ytdeeagphipfcaab
open Go.RowKit Go.Lib
set_option linter.unusedVariables false

/-- i slots of one byte each, all of them safe, behind i crashes. -/
def lvN (i : Nat) : PadS := ⟨rowsN i, i, false, (i : Int), 0, [], 0⟩

/-- .. armed, with one slot more. -/
def lvA (i : Nat) : PadS := ⟨rowsN (i + 1), i, false, (i : Int), 2, [], -1⟩

/-- .. behind the next crash. -/
def lvC (i : Nat) : PadS := ⟨rowsN (i + 1), i + 1, true, (i : Int) + 1, 0, [], 0⟩

theorem lvN_zero : lvN 0 = pad0 := rfl

theorem lvN_trip (i : Nat) : (lvN i).trip 3 [] (-1) = ⟨rowsN i, i, false, (i : Int), 3, [], -1⟩ := by simp [PadS.trip, lvN]

theorem lvN_append (i : Nat) (h : i < 4000) : PadS.append ⟨rowsN i, i, false, (i : Int), 3, [], -1⟩ [UInt8.ofNat i] = (lvA i, 0) := by
  unfold PadS.append
  rw [if_neg (by simp), if_neg (by simp), if_neg (by simp [rowsN_length]; omega)]
  simp [PadS.trips, lvA, rowsN_succ]

theorem spoil_one (i : Nat) (torn : Int) (h : torn ≠ 0) : spoilTo [true] torn i 1 (rowsN (i + 1)) = rowsN (i + 1) := by
  rw [show (1 : Nat) = 0 + 1 from rfl, spoilTo_succ_kept _ _ _ _ _ (by simp [kept]; omega), spoilTo_zero]

theorem lvA_crash (i : Nat) (h : i < 4000) : (lvA i).crash [true] (-1) = lvC i := by
  unfold PadS.crash
  rw [if_neg (by simp [lvA])]
  simp only [lvA, lvC, rowsN_length]
  rw [show i + 1 - i = 1 by omega, spoil_one i (-1) (by omega), IntWalk.wrap64_in _ ⟨by omega, by omega⟩]

theorem lvC_crash (i : Nat) (keep : List Bool) (torn : Int) : (lvC i).crash keep torn = lvC i := by simp [PadS.crash, lvC]

theorem lvC_start (i : Nat) : (lvC i).start = lvN (i + 1) := by simp [PadS.start, lvC, lvN]

theorem lvN_start (i : Nat) : (lvN i).start = lvN i := by simp [PadS.start, lvN]

theorem lvN_sync (i : Nat) : (lvN i).sync = (lvN i, 0) := by simp [PadS.sync, PadS.trips, lvN, rowsN_length]

theorem lvN_read (n i : Nat) (h : i < n) : (lvN n).read (i : Int) = ([UInt8.ofNat i], 0) := by
  unfold PadS.read
  rw [if_neg (by simp [lvN]), if_neg (by simp [lvN, rowsN_length]; omega), Int.toNat_natCast]
  have e : (lvN n).slots[i]? = some (some [UInt8.ofNat i]) := rowsN_get n i h
  rw [e]
  rfl

theorem trip_nil {K : Nat → Prop} {g : Nat} {n torn : Int} {s s' : PadS} (w : World) (hr : s.trip n [] torn = s') (hK : ∀ b, K b → b < w.heap.size) (hn : n ≤ 9223372036854775807) (h : PadAt K w g s) :
    Calls Try.prog 16 #[vP g, .int .i64 n, .slice none 0 0, .int .i64 torn] w fun e w' => e = .returned (.tuple #[]) ∧ PadAt K w' g s' ∧ Stay K w w' := by
  have := trip_any K g n none 0 0 [] torn s w hK hn h rfl (Nat.le_refl _) (by omega) (fun _ => ⟨rfl, rfl⟩) (RdO.nil _ _)
  rw [hr] at this
  exact this

end Go.Proofs.Ytdeeagphipfcaab
