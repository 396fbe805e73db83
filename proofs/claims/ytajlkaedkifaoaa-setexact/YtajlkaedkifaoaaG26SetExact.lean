/-
  Texts of the proof of SetExact, one behind the other.
-/
import Derived.WalkKit
namespace Go.Proofs.Ytajlkaedkifaoaa
open Go.RowKit

/-- A pad: its slots (none: spoilt), how many are safe, off, its life, and what is armed. -/
structure PadS where
  slots : List (Option (List UInt8))
  safe : Nat
  off : Bool
  life : Int
  calls : Int
  keep : List Bool
  torn : Int

/-- A new one. -/
def pad0 : PadS := ⟨[], 0, false, 0, 0, [], 0⟩

/-- Is the k-th of what is not safe kept? -/
def kept (keep : List Bool) (torn : Int) (k : Nat) : Bool := decide ((k : Int) ≠ torn) && (keep[k]?.getD false)

/-- The first so many stay, of the others those that are kept, up to the place m. -/
def spoilTo (keep : List Bool) (torn : Int) (safe m : Nat) (l : List (Option (List UInt8))) : List (Option (List UInt8)) :=
  l.mapIdx fun i s => if safe ≤ i ∧ i < safe + m ∧ kept keep torn (i - safe) = false then none else s

def PadS.crash (s : PadS) (keep : List Bool) (torn : Int) : PadS :=
  if s.off = true then s else ⟨spoilTo keep torn s.safe (s.slots.length - s.safe) s.slots, s.slots.length, true, wrap64 (s.life + 1), 0, [], 0⟩

/-- A call that has no error is counted: does it crash? -/
def PadS.trips (s : PadS) : PadS × Bool :=
  if s.calls = 0 then (s, false)
  else if 1 < s.calls then ({ s with calls := s.calls - 1 }, false)
  else ((PadS.crash { s with calls := s.calls - 1 } s.keep s.torn), true)

def PadS.append (s : PadS) (b : List UInt8) : PadS × Int :=
  if s.off = true then (s, 5)
  else if 65536 < b.length then (s, 2)
  else if 4000 ≤ s.slots.length then (s, 6)
  else ((PadS.trips { s with slots := s.slots ++ [some b] }).1, if (PadS.trips { s with slots := s.slots ++ [some b] }).2 = true then 5 else 0)

def PadS.sync (s : PadS) : PadS × Int :=
  if s.off = true then (s, 5)
  else if s.trips.2 = true then (s.trips.1, 5)
  else ({ s.trips.1 with safe := s.trips.1.slots.length }, 0)

def PadS.trim (s : PadS) (n : Int) : PadS × Int :=
  if s.off = true then (s, 5)
  else if n < 0 ∨ (s.safe : Int) < n then (s, 1)
  else if s.trips.2 = true then (s.trips.1, 5)
  else ({ s.trips.1 with slots := s.trips.1.slots.drop n.toNat, safe := s.trips.1.safe - n.toNat }, 0)

def PadS.cut (s : PadS) (n : Int) : PadS × Int :=
  if s.off = true then (s, 5)
  else if n < 0 ∨ (s.slots.length : Int) < n then (s, 1)
  else if s.trips.2 = true then (s.trips.1, 5)
  else ({ s.trips.1 with slots := s.trips.1.slots.take n.toNat, safe := min s.trips.1.safe n.toNat }, 0)

def PadS.trip (s : PadS) (n : Int) (keep : List Bool) (torn : Int) : PadS :=
  if n < 1 then { s with calls := 0, keep := [], torn := 0 } else { s with calls := n, keep := keep.take 4000, torn := torn }

def PadS.start (s : PadS) : PadS := { s with off := false }

/-- Read's answer. -/
def PadS.read (s : PadS) (i : Int) : List UInt8 × Int :=
  if s.off = true then ([], 5)
  else if i < 0 ∨ (s.slots.length : Int) ≤ i then ([], 7)
  else match (s.slots[i.toNat]?.getD none) with
    | none => ([], 13)
    | some b => (b, 0)

/-- What holds of each pad. -/
structure PadS.Ok (s : PadS) : Prop where
  safe : s.safe ≤ s.slots.length
  room : s.slots.length ≤ 4000
  calls : 0 ≤ s.calls ∧ s.calls ≤ 9223372036854775807
  keep : s.keep.length ≤ 4000
  bytes : ∀ b, some b ∈ s.slots → b.length ≤ 65536

theorem spoilTo_length (keep : List Bool) (torn : Int) (safe m : Nat) (l : List (Option (List UInt8))) : (spoilTo keep torn safe m l).length = l.length := by simp [spoilTo]

theorem spoilTo_zero (keep : List Bool) (torn : Int) (safe : Nat) (l : List (Option (List UInt8))) : spoilTo keep torn safe 0 l = l := by
  apply List.ext_getElem?
  intro i
  simp only [spoilTo, List.getElem?_mapIdx]
  cases h : l[i]? with
  | none => rfl
  | some x => simp; omega

theorem spoilTo_get (keep : List Bool) (torn : Int) (safe m i : Nat) (l : List (Option (List UInt8))) :
    (spoilTo keep torn safe m l)[i]? = (l[i]?).map fun s => if safe ≤ i ∧ i < safe + m ∧ kept keep torn (i - safe) = false then none else s := by
  simp [spoilTo, List.getElem?_mapIdx]

theorem spoilTo_succ_kept (keep : List Bool) (torn : Int) (safe m : Nat) (l : List (Option (List UInt8))) (h : kept keep torn m = true) : spoilTo keep torn safe (m + 1) l = spoilTo keep torn safe m l := by
  apply List.ext_getElem?
  intro i
  rw [spoilTo_get, spoilTo_get]
  congr 1
  funext s
  by_cases hi : i = safe + m
  · subst hi
    simp [h]
  · congr 1
    apply propext
    constructor <;> (rintro ⟨a, b, c⟩; exact ⟨a, by omega, c⟩)

theorem spoilTo_succ_lost (keep : List Bool) (torn : Int) (safe m : Nat) (l : List (Option (List UInt8))) (h : kept keep torn m = false) : spoilTo keep torn safe (m + 1) l = (spoilTo keep torn safe m l).set (safe + m) none := by
  apply List.ext_getElem?
  intro i
  rw [List.getElem?_set, spoilTo_get, spoilTo_get, spoilTo_length]
  by_cases hi : safe + m = i
  · subst hi
    rw [if_pos rfl]
    by_cases hl : safe + m < l.length
    · rw [if_pos hl, List.getElem?_eq_getElem hl]
      simp [h]
    · rw [if_neg hl, List.getElem?_eq_none (by omega)]
      rfl
  · rw [if_neg hi]
    congr 1
    funext s
    congr 1
    apply propext
    constructor <;> (rintro ⟨a, b, c⟩; exact ⟨a, by omega, c⟩)

theorem spoilTo_mem {keep : List Bool} {torn : Int} {safe m : Nat} {l : List (Option (List UInt8))} {b : List UInt8} (h : some b ∈ spoilTo keep torn safe m l) : some b ∈ l := by
  simp only [spoilTo, List.mem_mapIdx] at h
  obtain ⟨i, hi, e⟩ := h
  split at e
  · cases e
  · rw [← e]
    exact List.getElem_mem hi

theorem pad0_ok : pad0.Ok := ⟨by simp [pad0], by simp [pad0], by simp [pad0], by simp [pad0], by simp [pad0]⟩

theorem PadS.Ok.crash {s : PadS} (h : s.Ok) (keep : List Bool) (torn : Int) : (s.crash keep torn).Ok := by
  unfold PadS.crash
  split
  · exact h
  · refine ⟨?_, ?_, by simp, by simp, ?_⟩
    · simp [spoilTo_length]
    · simpa [spoilTo_length] using h.room
    · intro b hb
      exact h.bytes b (spoilTo_mem hb)

theorem PadS.Ok.trips {s : PadS} (h : s.Ok) : s.trips.1.Ok := by
  have hc := h.calls
  unfold PadS.trips
  split
  · exact h
  · split
    · exact ⟨h.safe, h.room, by simp only; omega, h.keep, h.bytes⟩
    · exact PadS.Ok.crash (s := { s with calls := s.calls - 1 }) ⟨h.safe, h.room, by simp only; omega, h.keep, h.bytes⟩ _ _

/-- With one slot more. -/
theorem PadS.Ok.more {s : PadS} (h : s.Ok) {b : List UInt8} (hb : b.length ≤ 65536) (hl : s.slots.length < 4000) : PadS.Ok { s with slots := s.slots ++ [some b] } := by
  refine ⟨?_, ?_, h.calls, h.keep, ?_⟩
  · have := h.safe
    simp
    omega
  · simp
    omega
  · intro c hc
    simp at hc
    rcases hc with hc | rfl
    · exact h.bytes c hc
    · exact hb

theorem PadS.Ok.append {s : PadS} (h : s.Ok) (b : List UInt8) : (s.append b).1.Ok := by
  unfold PadS.append
  split
  · exact h
  · split
    · exact h
    · split
      · exact h
      · exact (h.more (by omega) (by omega)).trips

end Go.Proofs.Ytajlkaedkifaoaa
