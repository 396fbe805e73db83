/-
  PadTrips' walk: what the law answers, whatever its numbers.
-/
import Derived.Test.YtdeeagphipfcaaaRows
import Derived.Test.YtdeeagphipfcaaaQLives
namespace Go.Proofs.Ytdeeagphipfcaaa
open Go.RowKit Go.Lib
set_option linter.unusedVariables false

/-- Behind k calls of n. -/
def InvT (n k : Nat) (s : PadS) : Prop := (k < n → s.off = false ∧ s.calls = (n : Int) - (k : Int) ∧ s.life = 0 ∧ s.slots.length ≤ k) ∧ (k = n → s.off = true ∧ s.life = 1 ∧ s.calls = 0)

theorem crash_facts {s : PadS} (keep : List Bool) (torn : Int) (h : s.off = false) (hl : s.life = 0) : (s.crash keep torn).off = true ∧ (s.crash keep torn).life = 1 ∧ (s.crash keep torn).calls = 0 := by
  unfold PadS.crash
  rw [if_neg (by simp [h])]
  refine ⟨rfl, ?_, rfl⟩
  simp [hl, wrap64]

theorem InvT.trips {n k : Nat} {s : PadS} (h : s.off = false ∧ s.calls = (n : Int) - (k : Int) ∧ s.life = 0 ∧ s.slots.length ≤ k + 1) (hk : k < n) :
    (k + 1 < n → s.trips.2 = false ∧ s.trips.1.off = false ∧ s.trips.1.calls = (n : Int) - ((k + 1 : Nat) : Int) ∧ s.trips.1.life = 0 ∧ s.trips.1.slots.length ≤ k + 1) ∧ (k + 1 = n → s.trips.2 = true ∧ s.trips.1.off = true ∧ s.trips.1.life = 1 ∧ s.trips.1.calls = 0) := by
  obtain ⟨h1, h2, h3, h4⟩ := h
  refine ⟨fun hn => ?_, fun hn => ?_⟩
  · have e : s.trips = ({ s with calls := s.calls - 1 }, false) := by
      unfold PadS.trips
      rw [if_neg (by omega), if_pos (by omega)]
    rw [e]
    exact ⟨rfl, h1, by simp only; omega, h3, h4⟩
  · have e : s.trips = (PadS.crash { s with calls := s.calls - 1 } s.keep s.torn, true) := by
      unfold PadS.trips
      rw [if_neg (by omega), if_neg (by omega)]
    rw [e]
    exact ⟨rfl, crash_facts _ _ h1 h3⟩

theorem InvT.sync {n k : Nat} {s : PadS} (h : InvT n k s) (hk : k < n) : InvT n (k + 1) s.sync.1 ∧ (k + 1 < n → s.sync.2 = 0) ∧ (k + 1 = n → s.sync.2 = 5) := by
  obtain ⟨h1, h2, h3, h4⟩ := h.1 hk
  have T := InvT.trips (n := n) (k := k) ⟨h1, h2, h3, by omega⟩ hk
  rcases Nat.lt_or_ge (k + 1) n with hn | hn
  · obtain ⟨t1, t2, t3, t4, t5⟩ := T.1 hn
    have e : s.sync = ({ s.trips.1 with safe := s.trips.1.slots.length }, 0) := by
      unfold PadS.sync
      rw [if_neg (by simp [h1]), if_neg (by simp [t1])]
    rw [e]
    exact ⟨⟨fun _ => ⟨t2, t3, t4, t5⟩, fun h => by omega⟩, fun _ => rfl, fun h => by omega⟩
  · obtain ⟨t1, t2, t3, t4⟩ := T.2 (by omega)
    have e : s.sync = (s.trips.1, 5) := by
      unfold PadS.sync
      rw [if_neg (by simp [h1]), if_pos t1]
    rw [e]
    exact ⟨⟨fun h => by omega, fun _ => ⟨t2, t3, t4⟩⟩, fun h => by omega, fun _ => rfl⟩

theorem InvT.append {n k : Nat} {s : PadS} (h : InvT n k s) (hk : k < n) (hn : n < 4000) (x : UInt8) : InvT n (k + 1) (s.append [x]).1 ∧ (k + 1 < n → (s.append [x]).2 = 0) ∧ (k + 1 = n → (s.append [x]).2 = 5) := by
  obtain ⟨h1, h2, h3, h4⟩ := h.1 hk
  have T := InvT.trips (n := n) (k := k) (s := { s with slots := s.slots ++ [some [x]] }) ⟨h1, h2, h3, by simp; omega⟩ hk
  have e : s.append [x] = ((PadS.trips { s with slots := s.slots ++ [some [x]] }).1, if (PadS.trips { s with slots := s.slots ++ [some [x]] }).2 = true then 5 else 0) := by
    unfold PadS.append
    rw [if_neg (by simp [h1]), if_neg (by simp), if_neg (by omega)]
  rw [e]
  rcases Nat.lt_or_ge (k + 1) n with hn | hn
  · obtain ⟨t1, t2, t3, t4, t5⟩ := T.1 hn
    exact ⟨⟨fun _ => ⟨t2, t3, t4, t5⟩, fun h => by omega⟩, fun _ => by simp [t1], fun h => by omega⟩
  · obtain ⟨t1, t2, t3, t4⟩ := T.2 (by omega)
    exact ⟨⟨fun h => by omega, fun _ => ⟨t2, t3, t4⟩⟩, fun h => by omega, fun _ => by simp [t1]⟩

theorem off_trim_no {s : PadS} (h : s.off = false) : s.trim (-1) = (s, 1) := by
  unfold PadS.trim
  rw [if_neg (by simp [h]), if_pos (.inl (by omega))]

theorem off_cut_no {s : PadS} (h : s.off = false) : s.cut (-1) = (s, 1) := by
  unfold PadS.cut
  rw [if_neg (by simp [h]), if_pos (.inl (by omega))]

theorem off_append_no {s : PadS} (h : s.off = false) : s.append (List.replicate 65537 0) = (s, 2) := by
  unfold PadS.append
  rw [if_neg (by simp [h]), if_pos (by rw [List.length_replicate]; omega)]

/-- make([]byte, n). -/
theorem run_make_bytes (w : World) (n : Nat) (h : n ≤ 1048576) :
    ∃ w', (Instr.makeSlice 31 (.int .i64 (n : Int)) (.int .i64 (n : Int))).run Try.prog w = .ok (.slice (some ⟨w.heap.size, 0, none⟩) n n) w' ∧ Row w' w.heap.size (List.replicate n 0) ∧ Below w.heap.size w w' := by
  obtain ⟨i0, hi, hz0, hz1, hz2⟩ := info_parts Try.info5
  obtain ⟨w', hrun, ho, hg⟩ := run_make_full (P := Try.prog) w w.heap.size 31 5 i0 (.int .u8 0) 1 Try.underlying31 hi hz0 hz1 .i64 .i64 n (by rw [hz2]; omega) (by unfold maxLen; omega) (Nat.le_refl _)
  exact ⟨w', hrun, row_made ho, (Below.refl _ _).grown hg (Nat.le_refl _) (fun k hk => by cases hk)⟩

/-- p.Trip(n, []bool{..}, torn). -/
theorem trip_made {K : Nat → Prop} {g q kn : Nat} {s s' : PadS} {n torn : Int} {w w1 : World} {cs : Array Value} (L : List Bool) (hcs : cs = (L.map Value.bool).toArray) (hkn : L.length = kn) (hr : s.trip n L torn = s') (hK : ∀ b, K b → b < w.heap.size) (hS : Stay K w w1) (h : PadAt K w1 g s) (hq : w1.heap.size = q) (hl : kn ≤ 9223372036854775807) (hn : n ≤ 9223372036854775807) :
    Calls Try.prog 21 #[vP g, .int .i64 n, .slice (some ⟨q, 0, none⟩) kn kn, .int .i64 torn] (w1.alloc (.cells cs 4)) fun e w' => e = .returned (.tuple #[]) ∧ PadAt K w' g s' ∧ Stay K w w' := by
  subst hcs
  have hb : Below w1.heap.size w1 (w1.alloc (.cells (L.map Value.bool).toArray 4)) := (Below.refl _ _).alloc (Nat.le_refl _) _
  have hS' := stay_later hS hK hb
  have hrd : RdO (w1.alloc (.cells (L.map Value.bool).toArray 4)) (some ⟨q, 0, none⟩) L := fun h0 => by
    obtain ⟨b, off, e, hc, _⟩ := keepR_made (K := K) (w := w1) L hq h0
    exact ⟨b, off, e, hc⟩
  have := trip_any K g n (some ⟨q, 0, none⟩) kn kn L torn s (w1.alloc (.cells (L.map Value.bool).toArray 4)) (fun b hb => Nat.lt_of_lt_of_le (hK b hb) hS'.size) hn (h.later hb) hkn (Nat.le_refl _) hl (fun h => by cases h) hrd
  rw [hr] at this
  refine this.mono ?_
  rintro e w' ⟨rfl, hp, hs⟩
  exact ⟨rfl, hp, hS'.trans hs⟩

theorem off_sync {s : PadS} (h : s.off = true) : s.sync = (s, 5) := by
  unfold PadS.sync
  rw [if_pos h]

/-- Started again, and synced. -/
def syncedT (s : PadS) : PadS := { s.start with safe := s.slots.length }

theorem start_sync {s : PadS} (h : s.calls = 0) : s.start.sync = (syncedT s, 0) := by
  have e : s.start.trips = (s.start, false) := by
    unfold PadS.trips
    rw [if_pos (show s.start.calls = 0 from h)]
  unfold PadS.sync
  rw [if_neg (by simp [PadS.start]), e, if_neg (by simp)]
  rfl

theorem invT_start (m : Nat) (L : List Bool) : InvT (m + 1) 0 (pad0.trip (1 + (m : Int)) L (-1)) := by
  unfold PadS.trip
  rw [if_neg (by omega)]
  exact ⟨fun _ => ⟨rfl, by simp only; omega, rfl, by simp [pad0]⟩, fun h => by omega⟩

set_option maxRecDepth 100000 in
set_option maxHeartbeats 8000000 in
theorem ptrips_walk (a0 a1 : Int) (a2 : Bool) (w : World) :
    Calls Try.prog 7 #[.int .i64 a0, .int .i64 a1, .bool a2] w fun e w' => e = .returned (.bool true) ∧ Below w.heap.size w w' := by
  obtain ⟨K, hKd⟩ : ∃ K : Nat → Prop, K = fun b => b < w.heap.size := ⟨_, rfl⟩
  have HK : Hid (∀ b, K b → b < w.heap.size) := by rw [hKd]; exact fun _ h => h
  have HKB : Hid (∀ w1, Stay K w w1 → Below w.heap.size w w1) := by rw [hKd]; exact fun w1 h => below_of_stay h
  have HKw : Hid (∀ w', Stay K w w' → ∀ b, K b → b < w'.heap.size) := fun w' h b hb => Nat.lt_of_lt_of_le (HK.out b hb) h.size
  clear hKd
  obtain ⟨m, hm, hm20⟩ := modQ a0 20 (by omega) (by omega)
  simp only [Int.cast_ofNat_Int] at hm
  go_enter Try.func7, Try.ntmps7
  go_wp2_with fail
  refine (new_any K w HK.out).mono ?_
  rintro e w1 ⟨rfl, hp1, hb1⟩
  have HP1 : Hid (PadAt K w1 w.heap.size pad0) := hp1
  have HS1 : Hid (Stay K w w1) := Stay.of_below hb1 HK.out
  clear hp1 hb1
  generalize w.heap.size = g at HP1 ⊢
  go_wp2_with fail
  refine (trip_made (kn := 20) (List.replicate 20 a2) rfl rfl rfl HK.out HS1.out HP1.out rfl (by omega) (by omega)).mono ?_
  rintro e w2 ⟨rfl, hp2, hs2⟩
  have HI2 : Hid (InvT (m + 1) 0 (pad0.trip (1 + (m : Int)) (List.replicate 20 a2) (-1))) := invT_start m _
  have HP2 : Hid _ := hp2
  have HS2 : Hid _ := hs2
  clear hp2 hs2 HP1 HS1
  generalize pad0.trip (1 + (m : Int)) (List.replicate 20 a2) (-1) = s0 at HI2 HP2
  go_wp2_with fail
  go_loopw [8, 9] (fun i e wr => ∃ (k : Nat) (s : PadS), k ≤ m + 1 ∧ i = .int .i64 ((k : Int) + 1) ∧ Hid (InvT (m + 1) k s) ∧ Hid (PadAt K wr g s) ∧ Hid (Stay K w wr)) (fun i _ _ => m + 2 - (RowKit.intOf i).toNat)
  case atStart => exact ⟨0, s0, Nat.zero_le _, rfl, HI2, HP2, HS2⟩
  case round =>
    obtain ⟨k, s, hk, rfl, hI, hP, hS⟩ := hrel
    by_cases hlt : k < m + 1
    · have HO : Hid (s.off = false) := (hI.out.1 hlt).1
      go_wp2_with fail
      refine (trim_of _ (off_trim_no HO.out) (HKw.out _ hS.out) hP.out).mono ?_
      rintro e w3 ⟨rfl, hp3, hs3⟩
      have HP3 : Hid _ := hp3
      have HS3 : Hid _ := hS.out.trans hs3
      clear hp3 hs3 hP hS
      go_wp2_with fail
      refine (cut_of _ (off_cut_no HO.out) (HKw.out _ HS3.out) HP3.out).mono ?_
      rintro e w4 ⟨rfl, hp4, hs4⟩
      have HP4 : Hid _ := hp4
      have HS4 : Hid _ := HS3.out.trans hs4
      clear hp4 hs4 HP3 HS3
      obtain ⟨w5, hmk, hrow5, hb5⟩ := run_make_bytes w4 65537 (by omega)
      simp only [Int.cast_ofNat_Int] at hmk
      have HP5 : Hid _ := HP4.out.later hb5
      have HS5 : Hid _ := stay_later HS4.out HK.out hb5
      have HR5 : Hid (Row w5 w4.heap.size (List.replicate 65537 0)) := hrow5
      clear HP4 HS4 hrow5 hb5
      go_wp2_with fail
      refine (append_of (l := List.replicate 65537 0) (n := 65537) _ (off_append_no HO.out) (HKw.out _ HS5.out) HP5.out (List.length_replicate ..) (by omega) HR5.out.rd).mono ?_
      rintro e w6 ⟨rfl, hp6, hs6⟩
      have HP6 : Hid _ := hp6
      have HS6 : Hid _ := HS5.out.trans hs6
      clear hp6 hs6 HP5 HS5 HR5 hmk
      have A := hI.out.append hlt (by omega) (UInt8.ofNat (k + 1))
      have B := hI.out.sync hlt
      by_cases hm1 : k = m
      · subst hm1
        have d1 : ((k : Int) + 1 == 1 + (k : Int)) = true := by simp; omega
        have HA : Hid (s.append [UInt8.ofNat (k + 1)] = ((s.append [UInt8.ofNat (k + 1)]).1, 5)) := Prod.ext rfl (A.2.2 rfl)
        have HB : Hid (s.sync = (s.sync.1, 5)) := Prod.ext rfl (B.2.2 rfl)
        have HIA : Hid (InvT (k + 1) (k + 1) (s.append [UInt8.ofNat (k + 1)]).1) := A.1
        have HIB : Hid (InvT (k + 1) (k + 1) s.sync.1) := B.1
        clear A B hI HO
        go_wp2_with fail
        all_goals
          first
          | (go_at_call 24; refine (append_one (UInt8.ofNat (k + 1)) (by have := ofNat_to (k := k + 1) (by omega); omega) HA.out HK.out HS6.out HP6.out rfl).mono ?_; rintro e w7 ⟨rfl, hp7, hs7⟩; have HI7 : Hid _ := HIA; have HP7 : Hid _ := hp7; have HS7 : Hid _ := hs7)
          | (go_at_call 11; refine (sync_of _ HB.out HP6.out).mono ?_; rintro e w7 ⟨rfl, hp7, hs7⟩; have HI7 : Hid _ := HIB; have HP7 : Hid _ := hp7; have HS7 : Hid _ := HS6.out.trans hs7)
        all_goals
          clear hp7 hs7 HA HB HIA HIB
          go_wp2
          exact ⟨⟨k + 1, _, by omega, by go_num, HI7.out, HP7.out, HS7.out⟩, by simp [RowKit.intOf]; omega⟩
      · have d1 : ((k : Int) + 1 == 1 + (m : Int)) = false := by simp; omega
        have HA : Hid (s.append [UInt8.ofNat (k + 1)] = ((s.append [UInt8.ofNat (k + 1)]).1, 0)) := Prod.ext rfl (A.2.1 (by omega))
        have HB : Hid (s.sync = (s.sync.1, 0)) := Prod.ext rfl (B.2.1 (by omega))
        have HIA : Hid (InvT (m + 1) (k + 1) (s.append [UInt8.ofNat (k + 1)]).1) := A.1
        have HIB : Hid (InvT (m + 1) (k + 1) s.sync.1) := B.1
        clear A B hI HO
        go_wp2_with fail
        all_goals
          first
          | (go_at_call 24; refine (append_one (UInt8.ofNat (k + 1)) (by have := ofNat_to (k := k + 1) (by omega); omega) HA.out HK.out HS6.out HP6.out rfl).mono ?_; rintro e w7 ⟨rfl, hp7, hs7⟩; have HI7 : Hid _ := HIA; have HP7 : Hid _ := hp7; have HS7 : Hid _ := hs7)
          | (go_at_call 11; refine (sync_of _ HB.out HP6.out).mono ?_; rintro e w7 ⟨rfl, hp7, hs7⟩; have HI7 : Hid _ := HIB; have HP7 : Hid _ := hp7; have HS7 : Hid _ := HS6.out.trans hs7)
        all_goals
          clear hp7 hs7 HA HB HIA HIB
          go_wp2
          exact ⟨⟨k + 1, _, by omega, by go_num, HI7.out, HP7.out, HS7.out⟩, by simp [RowKit.intOf]; omega⟩
    · obtain rfl : k = m + 1 := by omega
      obtain ⟨i1, i2, i3⟩ := hI.out.2 rfl
      have HO : Hid (s.off = true) := i1
      have HL : Hid (s.life = 1) := i2
      have HC : Hid (s.calls = 0) := i3
      clear i1 i2 i3 hI
      go_wp2_with fail
      refine (off_any K g _ _ hP.out).mono ?_
      rintro e w3 ⟨rfl, hw3⟩
      subst hw3
      rw [HO.out]
      go_wp2_with fail
      refine (life_any K g _ _ hP.out).mono ?_
      rintro e w3 ⟨rfl, hw3⟩
      subst hw3
      rw [HL.out]
      go_wp2_with fail
      refine (sync_of _ (off_sync HO.out) hP.out).mono ?_
      rintro e w4 ⟨rfl, hp4, hs4⟩
      have HP4 : Hid _ := hp4
      have HS4 : Hid _ := hS.out.trans hs4
      clear hp4 hs4 hP hS
      go_wp2_with fail
      refine (start_of _ rfl HP4.out).mono ?_
      rintro e w5 ⟨rfl, hp5, hs5⟩
      have HP5 : Hid _ := hp5
      have HS5 : Hid _ := HS4.out.trans hs5
      clear hp5 hs5 HP4 HS4
      go_wp2_with fail
      refine (sync_of _ (start_sync HC.out) HP5.out).mono ?_
      rintro e w6 ⟨rfl, hp6, hs6⟩
      have HP6 : Hid _ := hp6
      have HS6 : Hid _ := HS5.out.trans hs6
      clear hp6 hs6 HP5 HS5
      go_wp2_with fail
      refine (off_any K g _ _ HP6.out).mono ?_
      rintro e w7 ⟨rfl, hw7⟩
      subst hw7
      rw [show (syncedT s).off = false from rfl]
      go_wp2_with fail
      refine (safe_any K g _ _ HP6.out).mono ?_
      rintro e w7 ⟨rfl, hw7⟩
      subst hw7
      rw [show (syncedT s).safe = s.slots.length from rfl]
      go_wp2_with fail
      refine (len_any K g _ _ HP6.out).mono ?_
      rintro e w7 ⟨rfl, hw7⟩
      subst hw7
      rw [show (syncedT s).slots.length = s.slots.length from rfl]
      go_wp2_with fail
      refine (pwakes_any _).mono ?_
      rintro e w10 ⟨rfl, hb10⟩
      have HB10 : Hid _ := hb10
      clear hb10
      go_wp2
      go_ret
      exact ⟨rfl, HKB.out _ (stay_later HS6.out HK.out HB10.out)⟩

end Go.Proofs.Ytdeeagphipfcaaa
