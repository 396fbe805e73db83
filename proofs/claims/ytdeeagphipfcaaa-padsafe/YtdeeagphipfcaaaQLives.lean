/-
  PadLives' walk: what the law answers, whatever its number.
-/
import Derived.Test.YtdeeagphipfcaaaRows
import Derived.Test.YtdeeagphipfcaaaQEnds
namespace Go.Proofs.Ytdeeagphipfcaaa
open Go.RowKit Go.Lib
set_option linter.unusedVariables false

/-- i slots of one byte each, all of them safe, behind i crashes. -/
def lvN (i : Nat) : PadS := ⟨rowsN i, i, false, (i : Int), 0, [], 0⟩

/-- .. armed, with one slot more. -/
def lvA (i : Nat) : PadS := ⟨rowsN (i + 1), i, false, (i : Int), 2, [], -1⟩

/-- .. behind the next crash. -/
def lvC (i : Nat) : PadS := ⟨rowsN (i + 1), i + 1, true, (i : Int) + 1, 0, [], 0⟩

theorem lvN_zero : lvN 0 = pad0 := rfl

theorem lvN_trip (i : Nat) : (lvN i).trip 3 [] (-1) = ⟨rowsN i, i, false, (i : Int), 3, [], -1⟩ := by simp [PadS.trip, lvN]

theorem lvN_append (i : Nat) (h : i < 4000) : PadS.append ⟨rowsN i, i, false, (i : Int), 3, [], -1⟩ [UInt8.ofNat i] = (lvA i, 0) := by
  unfold PadS.append
  rw [if_neg (by simp), if_neg (by simp), if_neg (by simp [rowsN_length]; omega)]
  simp [PadS.trips, lvA, rowsN_succ]

theorem spoil_one (i : Nat) (torn : Int) (h : torn ≠ 0) : spoilTo [true] torn i 1 (rowsN (i + 1)) = rowsN (i + 1) := by
  rw [show (1 : Nat) = 0 + 1 from rfl, spoilTo_succ_kept _ _ _ _ _ (by simp [kept]; omega), spoilTo_zero]

theorem lvA_crash (i : Nat) (h : i < 4000) : (lvA i).crash [true] (-1) = lvC i := by
  unfold PadS.crash
  rw [if_neg (by simp [lvA])]
  simp only [lvA, lvC, rowsN_length]
  rw [show i + 1 - i = 1 by omega, spoil_one i (-1) (by omega), IntWalk.wrap64_in _ ⟨by omega, by omega⟩]

theorem lvC_crash (i : Nat) (keep : List Bool) (torn : Int) : (lvC i).crash keep torn = lvC i := by simp [PadS.crash, lvC]

theorem lvC_start (i : Nat) : (lvC i).start = lvN (i + 1) := by simp [PadS.start, lvC, lvN]

theorem lvN_start (i : Nat) : (lvN i).start = lvN i := by simp [PadS.start, lvN]

theorem lvN_sync (i : Nat) : (lvN i).sync = (lvN i, 0) := by simp [PadS.sync, PadS.trips, lvN, rowsN_length]

theorem lvN_read (n i : Nat) (h : i < n) : (lvN n).read (i : Int) = ([UInt8.ofNat i], 0) := by
  unfold PadS.read
  rw [if_neg (by simp [lvN]), if_neg (by simp [lvN, rowsN_length]; omega), Int.toNat_natCast]
  have e : (lvN n).slots[i]? = some (some [UInt8.ofNat i]) := rowsN_get n i h
  rw [e]
  rfl

theorem trip_nil {K : Nat → Prop} {g : Nat} {n torn : Int} {s s' : PadS} (w : World) (hr : s.trip n [] torn = s') (hK : ∀ b, K b → b < w.heap.size) (hn : n ≤ 9223372036854775807) (h : PadAt K w g s) :
    Calls Try.prog 21 #[vP g, .int .i64 n, .slice none 0 0, .int .i64 torn] w fun e w' => e = .returned (.tuple #[]) ∧ PadAt K w' g s' ∧ Stay K w w' := by
  have := trip_any K g n none 0 0 [] torn s w hK hn h rfl (Nat.le_refl _) (by omega) (fun _ => ⟨rfl, rfl⟩) (RdO.nil _ _)
  rw [hr] at this
  exact this

set_option maxRecDepth 100000 in
set_option maxHeartbeats 4000000 in
theorem plives_walk (a0 : Int) (a1 : Bool) (w : World) :
    Calls Try.prog 8 #[.int .i64 a0, .bool a1] w fun e w' => e = .returned (.bool true) ∧ Below w.heap.size w w' := by
  obtain ⟨K, hKd⟩ : ∃ K : Nat → Prop, K = fun b => b < w.heap.size := ⟨_, rfl⟩
  have HK : Hid (∀ b, K b → b < w.heap.size) := by rw [hKd]; exact fun _ h => h
  have HKB : Hid (∀ w1, Stay K w w1 → Below w.heap.size w w1) := by rw [hKd]; exact fun w1 h => below_of_stay h
  have HKw : Hid (∀ w', Stay K w w' → ∀ b, K b → b < w'.heap.size) := fun w' h b hb => Nat.lt_of_lt_of_le (HK.out b hb) h.size
  clear hKd
  obtain ⟨n, hn, hn40⟩ := modQ a0 20 (by omega) (by omega)
  simp only [Int.cast_ofNat_Int] at hn
  go_enter Try.func8, Try.ntmps8
  go_wp2_with fail
  refine (new_any K w HK.out).mono ?_
  rintro e w1 ⟨rfl, hp1, hb1⟩
  have HP1 : Hid (PadAt K w1 w.heap.size (lvN 0)) := hp1
  have HS1 : Hid (Stay K w w1) := Stay.of_below hb1 HK.out
  clear hp1 hb1
  generalize w.heap.size = g at HP1 ⊢
  go_wp2_with fail
  refine (life_any K g _ _ HP1.out).mono ?_
  rintro e w2 ⟨rfl, hw2⟩
  subst hw2
  rw [show (lvN 0).life = 0 from rfl]
  go_wp2_with fail
  refine (off_any K g _ _ HP1.out).mono ?_
  rintro e w2 ⟨rfl, hw2⟩
  subst hw2
  rw [show (lvN 0).off = false from rfl]
  go_wp2_with fail
  go_loopw [6] (fun i wr => ∃ k : Nat, k ≤ n ∧ i = .int .i64 k ∧ Hid (PadAt K wr g (lvN k)) ∧ Hid (Stay K w wr)) (fun i _ => n - (RowKit.intOf i).toNat)
  case atStart => exact ⟨0, Nat.zero_le _, rfl, HP1, HS1⟩
  case round =>
    obtain ⟨k, hk, rfl, hP, hS⟩ := hrel
    by_cases hlt : k < n
    · go_wp2_with fail
      refine (trip_nil _ (lvN_trip k) (HKw.out _ hS.out) (by omega) hP.out).mono ?_
      rintro e w2 ⟨rfl, hp2, hs2⟩
      have HP2 : Hid _ := hp2
      have HS2 : Hid _ := hS.out.trans hs2
      clear hp2 hs2 hP hS
      go_wp2_with fail
      refine (append_one (UInt8.ofNat k) (ofNat_to (by omega)) (lvN_append k (by omega)) HK.out HS2.out HP2.out rfl).mono ?_
      rintro e w3 ⟨rfl, hp3, hs3⟩
      have HP3 : Hid _ := hp3
      have HS3 : Hid _ := hs3
      clear hp3 hs3 HP2 HS2
      go_wp2_with fail
      refine (crash_made (kn := 1) [true] rfl rfl (lvA_crash k (by omega)) HK.out HS3.out HP3.out rfl (by omega)).mono ?_
      rintro e w4 ⟨rfl, hp4, hs4⟩
      have HP4 : Hid _ := hp4
      have HS4 : Hid _ := hs4
      clear hp4 hs4 HP3 HS3
      cases a1
      focus
        go_wp2_with fail
      rotate_left
      focus
        go_wp2_with fail
        refine (crash_of (keep := []) _ (lvC_crash k [] 0) HP4.out (kn := 0) rfl (by omega) (KeepR.nil _ _ _)).mono ?_
        rintro e w5 ⟨rfl, hp5, hs5⟩
        replace HP4 : Hid _ := hp5
        replace HS4 : Hid _ := HS4.out.trans hs5
        clear hp5 hs5
        go_wp2_with fail
      all_goals
        refine (life_any K g _ _ HP4.out).mono ?_
        rintro e w5 ⟨rfl, hw5⟩
        subst hw5
        rw [show (lvC k).life = (k : Int) + 1 from rfl]
        go_wp2_with fail
        refine (off_any K g _ _ HP4.out).mono ?_
        rintro e w5 ⟨rfl, hw5⟩
        subst hw5
        rw [show (lvC k).off = true from rfl]
        go_wp2_with fail
        refine (start_of _ (lvC_start k) HP4.out).mono ?_
        rintro e w5 ⟨rfl, hp5, hs5⟩
        have HP5 : Hid _ := hp5
        have HS5 : Hid _ := HS4.out.trans hs5
        clear hp5 hs5 HP4 HS4
        go_wp2_with fail
        refine (start_of _ (lvN_start (k + 1)) HP5.out).mono ?_
        rintro e w6 ⟨rfl, hp6, hs6⟩
        have HP6 : Hid _ := hp6
        have HS6 : Hid _ := HS5.out.trans hs6
        clear hp6 hs6 HP5 HS5
        go_wp2_with fail
        go_loopw [7] (fun i wr => ∃ j : Nat, j ≤ 4 ∧ i = .int .i64 j ∧ Hid (PadAt K wr g (lvN (k + 1))) ∧ Hid (Stay K w wr)) (fun i _ => 4 - (RowKit.intOf i).toNat)
        case atStart => exact ⟨0, Nat.zero_le _, rfl, HP6, HS6⟩
        case round =>
          obtain ⟨j, hj, rfl, hP, hS⟩ := hrel
          by_cases hj4 : j < 4
          · go_wp2_with fail
            refine (sync_of _ (lvN_sync (k + 1)) hP.out).mono ?_
            rintro e w7 ⟨rfl, hp7, hs7⟩
            have HP7 : Hid _ := hp7
            have HS7 : Hid _ := hS.out.trans hs7
            clear hp7 hs7
            go_wp2
            exact ⟨⟨j + 1, by omega, by go_num, HP7.out, HS7.out⟩, by simp [RowKit.intOf]; omega⟩
          · go_wp2
            exact ⟨⟨k + 1, by omega, by go_num, hP.out, hS.out⟩, by simp [RowKit.intOf]; omega⟩
    · obtain rfl : k = n := by omega
      clear HP1 HS1 hlt hk
      go_wp2_with fail
      go_loopw [8] (fun i wr => ∃ j : Nat, j ≤ k ∧ i = .int .i64 j ∧ Hid (PadAt K wr g (lvN k)) ∧ Hid (Stay K w wr)) (fun i _ => k - (RowKit.intOf i).toNat)
      case atStart => exact ⟨0, Nat.zero_le _, rfl, hP, hS⟩
      case round =>
        obtain ⟨i, hi, rfl, hP, hS⟩ := hrel
        by_cases hlt : i < k
        · go_wp2_with fail
          refine (read_of _ (lvN_read k i hlt) hP.out).mono ?_
          rintro e w9 hg9
          obtain ⟨a9, cap9, rfl, _, hr9, hb9⟩ := hg9.rd
          have HP9 : Hid _ := hP.out.later hb9
          have HS9 : Hid _ := stay_later hS.out HK.out hb9
          have HR9 : Hid (Rd w9 a9 [UInt8.ofNat i]) := hr9
          clear hg9 hr9 hb9
          rw [show ([UInt8.ofNat i] : List UInt8).length = 1 from rfl]
          go_wp2_with fail
          refine (bytes_any _ _ 1 1 _ _ [UInt8.ofNat i] [UInt8.ofNat i] _ rfl rfl (by omega) (by omega) (by exact HR9.out.later ((Below.refl _ _).alloc (Nat.le_refl _) _)) (by exact (row_oneZ (UInt8.ofNat i) (ofNat_to (by omega)) rfl).rd)).mono ?_
          rintro e w10 ⟨rfl, hb10⟩
          have HB10 : Hid (Below w9.heap.size w9 w10) := chain ((Below.refl _ _).alloc (Nat.le_refl _) _) hb10
          clear hb10
          rw [decide_eq_true rfl]
          go_wp2
          exact ⟨⟨i + 1, by omega, by go_num, HP9.out.later HB10.out, stay_later HS9.out HK.out HB10.out⟩, by simp [RowKit.intOf]; omega⟩
        · go_wp2_with fail
          refine (len_any K g _ _ hP.out).mono ?_
          rintro e w9 ⟨rfl, hw9⟩
          subst hw9
          rw [show (lvN k).slots.length = k from rowsN_length k]
          go_wp2_with fail
          refine (pwakes_any _).mono ?_
          rintro e w10 ⟨rfl, hb10⟩
          have HB10 : Hid _ := hb10
          clear hb10
          go_wp2
          go_ret
          exact ⟨rfl, HKB.out _ (stay_later hS.out HK.out HB10.out)⟩

end Go.Proofs.Ytdeeagphipfcaaa
