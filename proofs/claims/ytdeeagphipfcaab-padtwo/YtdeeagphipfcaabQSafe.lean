/-
  Plain facts on a pad whose first slots are safe; what raddlelaw09's Heavy does; an act's box.
-/
import Derived.Test.YtdeeagphipfcaabRows
import Derived.Test.YtdeeagphipfcaabQLives
import Derived.Test.YtdeeagphipfcaabQFrame
namespace Go.Proofs.Ytdeeagphipfcaab
open Go.RowKit Go.Lib
set_option linter.unusedVariables false

/-- The first slots are safe, and as these bytes. -/
def SafeI (R : List (List UInt8)) (s : PadS) : Prop := R.length ≤ s.safe ∧ s.safe ≤ s.slots.length ∧ s.slots.take R.length = R.map some

theorem spoilTo_take (keep : List Bool) (torn : Int) (safe m n : Nat) (l : List (Option (List UInt8))) (h : n ≤ safe) : (spoilTo keep torn safe m l).take n = l.take n := by
  apply List.ext_getElem?
  intro i
  rw [List.getElem?_take, List.getElem?_take]
  by_cases hi : i < n
  · rw [if_pos hi, if_pos hi, spoilTo_get]
    have hno : ¬ (safe ≤ i ∧ i < safe + m ∧ kept keep torn (i - safe) = false) := by omega
    simp [hno]
  · rw [if_neg hi, if_neg hi]

theorem SafeI.crash {R : List (List UInt8)} {s : PadS} (h : SafeI R s) (keep : List Bool) (torn : Int) : SafeI R (s.crash keep torn) := by
  unfold PadS.crash
  split
  · exact h
  · refine ⟨Nat.le_trans h.1 h.2.1, by simp [spoilTo_length], ?_⟩
    simp only
    rw [spoilTo_take _ _ _ _ _ _ h.1]
    exact h.2.2

theorem SafeI.trips {R : List (List UInt8)} {s : PadS} (h : SafeI R s) : SafeI R s.trips.1 := by
  unfold PadS.trips
  split
  · exact h
  · split
    · exact h
    · exact SafeI.crash (s := { s with calls := s.calls - 1 }) h _ _

theorem SafeI.sync {R : List (List UInt8)} {s : PadS} (h : SafeI R s) : SafeI R s.sync.1 := by
  unfold PadS.sync
  split
  · exact h
  · split
    · exact h.trips
    · exact ⟨Nat.le_trans h.trips.1 h.trips.2.1, Nat.le_refl _, h.trips.2.2⟩

theorem SafeI.append {R : List (List UInt8)} {s : PadS} (h : SafeI R s) (b : List UInt8) : SafeI R (s.append b).1 := by
  unfold PadS.append
  split
  · exact h
  · split
    · exact h
    · split
      · exact h
      · refine SafeI.trips (s := { s with slots := s.slots ++ [some b] }) ⟨h.1, by have := h.2.1; simp; omega, ?_⟩
        simp only
        rw [List.take_append_of_le_length (Nat.le_trans h.1 h.2.1)]
        exact h.2.2

theorem SafeI.trip {R : List (List UInt8)} {s : PadS} (h : SafeI R s) (n : Int) (keep : List Bool) (torn : Int) : SafeI R (s.trip n keep torn) := by
  unfold PadS.trip
  split <;> exact h

theorem SafeI.start {R : List (List UInt8)} {s : PadS} (h : SafeI R s) : SafeI R s.start := h

theorem SafeI.read {R : List (List UInt8)} {s : PadS} (h : SafeI R s) (ho : s.off = false) (i : Nat) (hi : i < R.length) : s.read (i : Int) = (R[i], 0) := by
  have e : s.slots[i]? = some (some R[i]) := by
    have h1 : (s.slots.take R.length)[i]? = (R.map some)[i]? := by rw [h.2.2]
    rw [List.getElem?_take_of_lt hi] at h1
    rw [h1]
    simp [List.getElem?_eq_getElem hi]
  have hl : i < s.slots.length := (List.getElem?_eq_some_iff.1 e).1
  unfold PadS.read
  rw [if_neg (by simp [ho]), if_neg (by omega), Int.toNat_natCast, e]
  rfl

/-- These rows, appended one behind the other. -/
def stR (R : List (List UInt8)) (sf : Nat) : PadS := ⟨R.map some, sf, false, 0, 0, [], 0⟩

theorem stR_append (R : List (List UInt8)) (l : List UInt8) (h : R.length < 4000) (hl : l.length ≤ 65536) : (stR R 0).append l = (stR (R ++ [l]) 0, 0) := by
  unfold PadS.append
  rw [if_neg (by simp [stR]), if_neg (by omega), if_neg (by simp [stR]; omega)]
  simp [PadS.trips, stR]

theorem stR_sync (R : List (List UInt8)) : (stR R 0).sync = (stR R R.length, 0) := by
  simp [PadS.sync, PadS.trips, stR]

theorem stR_safe (R : List (List UInt8)) : SafeI R (stR R R.length) := ⟨Nat.le_refl _, by simp [stR], by simp only [stR]; rw [List.take_of_length_le (by simp)]⟩

/-- Heavy's answer: where it is no, the acts are not great. -/
def TellsH (w w' : World) (e : Ending) (L : List PA) : Prop := ∃ b : Bool, e = .returned (.bool b) ∧ w' = w ∧ (b = false → ∀ i (hi : i < L.length), i < 60 → L[i].b.length ≤ 300 ∧ L[i].k.length ≤ 300)

theorem TellsH.yes {w : World} {L : List PA} : TellsH w w (.returned (.bool true)) L := ⟨true, rfl, rfl, fun h => by cases h⟩

theorem TellsH.no {w : World} {L : List PA} (h : ∀ i (hi : i < L.length), i < 60 → L[i].b.length ≤ 300 ∧ L[i].k.length ≤ 300) : TellsH w w (.returned (.bool false)) L := ⟨false, rfl, rfl, fun _ => h⟩

set_option maxHeartbeats 1000000 in
theorem heavyQ_any (a : Option Addr) (n cap : Nat) (L : List PA) (w : World) (hn : L.length = n) (h64 : n ≤ 9223372036854775807) (hr : RdA w a L) (hok : ∀ x ∈ L, x.Ok) :
    Calls Try.prog 12 #[.slice a n cap] w fun e w' => TellsH w w' e L := by
  by_cases hbig : 240 < n
  · go_enter Try.func12, Try.ntmps12
    go_wp2
    go_ret
    exact TellsH.yes
  have HN : Hid (L.length = n) := hn
  have HR : Hid (RdA w a L) := hr
  have HO : Hid (∀ x ∈ L, x.Ok) := hok
  clear hn hr hok
  go_enter Try.func12, Try.ntmps12
  go_wp2_with fail
  go_loopw [3] (fun i wr => ∃ k : Nat, k ≤ n ∧ k ≤ 60 ∧ i = .int .i64 k ∧ wr = w ∧ Hid (∀ j (hj : j < L.length), j < k → L[j].b.length ≤ 300 ∧ L[j].k.length ≤ 300)) (fun i _ => n - (RowKit.intOf i).toNat)
  case atStart => exact ⟨0, Nat.zero_le _, Nat.zero_le _, rfl, rfl, fun j _ h => absurd h (by omega)⟩
  case round =>
    obtain ⟨k, hk, hk60, rfl, rfl, hA⟩ := hrel
    by_cases hlt : k < n ∧ k < 60
    · obtain ⟨hlt, hlt60⟩ := hlt
      have hkl : k < L.length := by rw [HN.out]; exact hlt
      obtain ⟨b, off, rfl, hc⟩ := HR.out (by omega)
      obtain ⟨c0, c1, ⟨ub, c2, ab, capb, rfl, hb1, hb2, hb3⟩, ⟨uk, c3, ak, capk, rfl, hk1, hk2, hk3⟩, c4⟩ := hc k hkl
      have ho := HO.out L[k] (List.getElem_mem hkl)
      obtain ⟨_, _, _, o1, o2⟩ := ho
      clear hc hb2 hb3 hk2 hk3
      by_cases h1 : 300 < L[k].b.length
      · go_wp2
        go_ret
        exact TellsH.yes
      · by_cases h2 : 300 < L[k].k.length
        · go_wp2
          go_ret
          exact TellsH.yes
        · have HA' : Hid (∀ j (hj : j < L.length), j < k + 1 → L[j].b.length ≤ 300 ∧ L[j].k.length ≤ 300) := fun j hj hjk => by
            rcases Nat.lt_or_ge j k with h | h
            · exact hA.out j hj h
            · obtain rfl : j = k := by omega
              exact ⟨by omega, by omega⟩
          go_wp2
          exact ⟨⟨k + 1, by omega, by omega, by go_num, by first | trivial | rfl, HA'.out⟩, by simp [RowKit.intOf]; omega⟩
    · by_cases hkn : k < n
      · have hk6 : 60 ≤ k := by omega
        go_wp2
        go_ret
        exact TellsH.no fun i hi h => hA.out i hi (by omega)
      · have hk6 : n ≤ k := by omega
        go_wp2
        go_ret
        exact TellsH.no fun i hi h => hA.out i hi (by have := HN.out; omega)

/-- A box of the call's own. -/
theorem bxA (w : World) (o : Obj) : Below w.heap.size w (w.alloc o) := (Below.refl _ w).alloc (Nat.le_refl _) o

theorem modK (k : Int) (m : Nat) (h : 0 < m) : ∃ v : Nat, (IntKind.u64.wrap k).tmod (m : Int) = (v : Int) ∧ v < m := by
  have h0 : 0 ≤ IntKind.u64.wrap k := by rw [IntKind.wrap_u64]; omega
  have h2 : (IntKind.u64.wrap k).tmod m = IntKind.u64.wrap k % m := Int.tmod_eq_emod_of_nonneg h0
  have h3 := Int.emod_nonneg (IntKind.u64.wrap k) (show (m : Int) ≠ 0 by omega)
  have h4 := Int.emod_lt_of_pos (IntKind.u64.wrap k) (show (0 : Int) < m by omega)
  exact ⟨(IntKind.u64.wrap k % m).toNat, by rw [h2]; omega, by omega⟩

end Go.Proofs.Ytdeeagphipfcaab
