/-
  PadRoom's walk: what the law answers, whatever its number.
-/
import Derived.Test.YtdeeagphipfcaabRows
import Derived.Test.YtdeeagphipfcaabQLives
namespace Go.Proofs.Ytdeeagphipfcaab
open Go.RowKit Go.Lib
set_option linter.unusedVariables false

/-- A pad that is on, with nothing armed, of so many slots, the first so many safe. -/
def Room (k sf : Nat) (s : PadS) : Prop := s.off = false ∧ s.calls = 0 ∧ s.slots.length = k ∧ s.safe = sf

theorem Room.trips {k sf : Nat} {s : PadS} (h : Room k sf s) : s.trips = (s, false) := by
  unfold PadS.trips
  rw [if_pos h.2.1]

theorem Room.append {k sf : Nat} {s : PadS} (h : Room k sf s) (hk : k < 4000) (l : List UInt8) (hl : l.length ≤ 65536) : ∃ s', s.append l = (s', 0) ∧ Room (k + 1) sf s' := by
  have h1 := h.2.2.1
  have hr : Room (k + 1) sf { s with slots := s.slots ++ [some l] } := ⟨h.1, h.2.1, by simp; exact h1, h.2.2.2⟩
  refine ⟨{ s with slots := s.slots ++ [some l] }, ?_, hr⟩
  unfold PadS.append
  rw [if_neg (by simp [h.1]), if_neg (by omega), if_neg (by omega), hr.trips]
  rfl

theorem Room.full {sf : Nat} {s : PadS} (h : Room 4000 sf s) (l : List UInt8) (hl : l.length ≤ 65536) : s.append l = (s, 6) := by
  have h1 := h.2.2.1
  unfold PadS.append
  rw [if_neg (by simp [h.1]), if_neg (by omega), if_pos (by omega)]

theorem Room.sync {k sf : Nat} {s : PadS} (h : Room k sf s) : ∃ s', s.sync = (s', 0) ∧ Room k k s' := by
  refine ⟨{ s with safe := s.slots.length }, ?_, ⟨h.1, h.2.1, h.2.2.1, h.2.2.1⟩⟩
  unfold PadS.sync
  rw [if_neg (by simp [h.1]), h.trips, if_neg (by simp)]

theorem Room.trim {k sf t : Nat} {s : PadS} (h : Room k sf s) (ht : t ≤ sf) : ∃ s', s.trim (t : Int) = (s', 0) ∧ Room (k - t) (sf - t) s' := by
  have h1 := h.2.2.1
  have h2 := h.2.2.2
  refine ⟨{ s with slots := s.slots.drop t, safe := s.safe - t }, ?_, ⟨h.1, h.2.1, by simp; omega, by simp only; omega⟩⟩
  unfold PadS.trim
  rw [if_neg (by simp [h.1]), if_neg (by omega), h.trips, if_neg (by simp), Int.toNat_natCast]

theorem pad0_room : Room 0 0 pad0 := ⟨rfl, rfl, rfl, rfl⟩

set_option maxRecDepth 100000 in
set_option maxHeartbeats 4000000 in
theorem proom_walk (a0 : Int) (w : World) :
    Calls Try.prog 3 #[.int .i64 a0] w fun e w' => e = .returned (.bool true) ∧ Below w.heap.size w w' := by
  obtain ⟨K, hKd⟩ : ∃ K : Nat → Prop, K = fun b => b < w.heap.size := ⟨_, rfl⟩
  have HK : Hid (∀ b, K b → b < w.heap.size) := by rw [hKd]; exact fun _ h => h
  have HKB : Hid (∀ w1, Stay K w w1 → Below w.heap.size w w1) := by rw [hKd]; exact fun w1 h => below_of_stay h
  have HKw : Hid (∀ w', Stay K w w' → ∀ b, K b → b < w'.heap.size) := fun w' h b hb => Nat.lt_of_lt_of_le (HK.out b hb) h.size
  clear hKd
  obtain ⟨m, hm, hm50⟩ := modQ a0 50 (by omega) (by omega)
  simp only [Int.cast_ofNat_Int] at hm
  go_enter Try.func3, Try.ntmps3
  go_wp2_with fail
  refine (new_any K w HK.out).mono ?_
  rintro e w1 ⟨rfl, hp1, hb1⟩
  have HP1 : Hid (PadAt K w1 w.heap.size pad0) := hp1
  have HS1 : Hid (Stay K w w1) := Stay.of_below hb1 HK.out
  clear hp1 hb1
  generalize w.heap.size = g at HP1 ⊢
  go_wp2_with fail
  go_loopw [4] (fun i wr => ∃ (k : Nat) (s : PadS), k ≤ 4000 ∧ i = .int .i64 k ∧ Hid (Room k 0 s) ∧ Hid (PadAt K wr g s) ∧ Hid (Stay K w wr)) (fun i _ => 4000 - (RowKit.intOf i).toNat)
  case atStart => exact ⟨0, pad0, Nat.zero_le _, rfl, pad0_room, HP1, HS1⟩
  case round =>
    obtain ⟨k, s, hk, rfl, hI, hP, hS⟩ := hrel
    clear HP1 HS1
    by_cases hlt : k < 4000
    · obtain ⟨s2, hr, hI2⟩ := hI.out.append hlt [] (by simp)
      have HR : Hid (s.append [] = (s2, 0)) := hr
      have HI2 : Hid (Room (k + 1) 0 s2) := hI2
      clear hr hI2
      go_wp2_with fail
      refine (append_of (l := []) (n := 0) _ HR.out (HKw.out _ hS.out) hP.out rfl (by omega) (Rd.nil _ _)).mono ?_
      rintro e w2 ⟨rfl, hp2, hs2⟩
      have HP2 : Hid _ := hp2
      have HS2 : Hid _ := hS.out.trans hs2
      clear hp2 hs2 hP hS
      go_wp2
      exact ⟨⟨k + 1, s2, by omega, by go_num, HI2.out, HP2.out, HS2.out⟩, by simp [RowKit.intOf]; omega⟩
    · obtain rfl : k = 4000 := by omega
      clear hlt hk
      have HF : Hid (s.append [] = (s, 6)) := hI.out.full [] (by simp)
      have HL : Hid (s.slots.length = 4000) := hI.out.2.2.1
      obtain ⟨s2, hr2, hI2⟩ := hI.out.sync
      have HR2 : Hid (s.sync = (s2, 0)) := hr2
      obtain ⟨s3, hr3, hI3⟩ := hI2.trim (t := m + 1) (by omega)
      have HR3 : Hid (s2.trim ((m + 1 : Nat) : Int) = (s3, 0)) := hr3
      have HI3 : Hid (Room (4000 - (m + 1)) (4000 - (m + 1)) s3) := hI3
      have HM : Hid (((m + 1 : Nat) : Int) = 1 + (m : Int)) := by simp [Hid]; omega
      clear hr2 hI2 hr3 hI3 hI
      go_wp2_with fail
      refine (append_of (l := []) (n := 0) _ HF.out (HKw.out _ hS.out) hP.out rfl (by omega) (Rd.nil _ _)).mono ?_
      rintro e w2 ⟨rfl, hp2, hs2⟩
      have HP2 : Hid _ := hp2
      have HS2 : Hid _ := hS.out.trans hs2
      clear hp2 hs2 hP hS
      go_wp2_with fail
      refine (len_any K g _ _ HP2.out).mono ?_
      rintro e w3 ⟨rfl, hw3⟩
      subst hw3
      rw [HL.out]
      go_wp2_with fail
      refine (sync_of _ HR2.out HP2.out).mono ?_
      rintro e w4 ⟨rfl, hp4, hs4⟩
      have HP4 : Hid _ := hp4
      have HS4 : Hid _ := HS2.out.trans hs4
      clear hp4 hs4 HP2 HS2
      go_wp2_with fail
      rw [← HM.out]
      refine (trim_of _ HR3.out (HKw.out _ HS4.out) HP4.out).mono ?_
      rintro e w5 ⟨rfl, hp5, hs5⟩
      have HP5 : Hid _ := hp5
      have HS5 : Hid _ := HS4.out.trans hs5
      clear hp5 hs5 HP4 HS4
      rw [HM.out]
      go_wp2_with fail
      go_loopw [5] (fun i wr => ∃ (j : Nat) (s : PadS), j ≤ m + 1 ∧ i = .int .i64 j ∧ Hid (Room (4000 - (m + 1) + j) (4000 - (m + 1)) s) ∧ Hid (PadAt K wr g s) ∧ Hid (Stay K w wr)) (fun i _ => m + 1 - (RowKit.intOf i).toNat)
      case atStart => exact ⟨0, s3, Nat.zero_le _, rfl, HI3, HP5, HS5⟩
      case round =>
        obtain ⟨j, t, hj, rfl, hI, hP, hS⟩ := hrel
        clear HP5 HS5 HI3
        by_cases hlt : j < m + 1
        · obtain ⟨t2, hr, hI2⟩ := hI.out.append (by omega) [1] (by simp)
          have HR : Hid (t.append [1] = (t2, 0)) := hr
          have HI2 : Hid (Room (4000 - (m + 1) + (j + 1)) (4000 - (m + 1)) t2) := hI2
          clear hr hI2
          go_wp2_with fail
          refine (append_one 1 rfl HR.out HK.out hS.out hP.out rfl).mono ?_
          rintro e w6 ⟨rfl, hp6, hs6⟩
          have HP6 : Hid _ := hp6
          have HS6 : Hid _ := hs6
          clear hp6 hs6 hP hS
          go_wp2
          exact ⟨⟨j + 1, t2, by omega, by go_num, HI2.out, HP6.out, HS6.out⟩, by simp [RowKit.intOf]; omega⟩
        · obtain rfl : j = m + 1 := by omega
          have hI' : Room 4000 (4000 - (m + 1)) t := by
            have := hI.out
            rw [show 4000 - (m + 1) + (m + 1) = 4000 by omega] at this
            exact this
          have HF' : Hid (t.append [] = (t, 6)) := hI'.full [] (by simp)
          have HL' : Hid (t.slots.length = 4000) := hI'.2.2.1
          have HS' : Hid ((t.safe : Int) = 4000 - (1 + (m : Int))) := by rw [hI'.2.2.2]; simp [Hid]; omega
          clear hI' hlt hj
          go_wp2_with fail
          refine (append_of (l := []) (n := 0) _ HF'.out (HKw.out _ hS.out) hP.out rfl (by omega) (Rd.nil _ _)).mono ?_
          rintro e w6 ⟨rfl, hp6, hs6⟩
          have HP6 : Hid _ := hp6
          have HS6 : Hid _ := hS.out.trans hs6
          clear hp6 hs6 hP hS
          go_wp2_with fail
          refine (len_any K g _ _ HP6.out).mono ?_
          rintro e w7 ⟨rfl, hw7⟩
          subst hw7
          rw [HL'.out]
          go_wp2_with fail
          refine (safe_any K g _ _ HP6.out).mono ?_
          rintro e w7 ⟨rfl, hw7⟩
          subst hw7
          rw [HS'.out]
          go_wp2_with fail
          refine (pwakes_any _).mono ?_
          rintro e w10 ⟨rfl, hb10⟩
          have HB10 : Hid _ := hb10
          clear hb10
          go_wp2
          go_ret
          exact ⟨rfl, HKB.out _ (stay_later HS6.out HK.out HB10.out)⟩

end Go.Proofs.Ytdeeagphipfcaab
