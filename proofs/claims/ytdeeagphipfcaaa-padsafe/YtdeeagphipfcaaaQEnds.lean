/-
  PadEnds' walk: what the law answers, whatever its numbers.
-/
import Derived.Test.YtdeeagphipfcaaaRows
import Derived.Test.YtdeeagphipfcaaaQLaws
import Derived.Test.YtdeeagphipfcaaaKeep
namespace Go.Proofs.Ytdeeagphipfcaaa
open Go.RowKit Go.Lib
set_option linter.unusedVariables false

theorem modQ (k : Int) (m : Nat) (h : 0 < m) (h' : m ≤ 4611686018427387904) : ∃ v : Nat, wrap64 ((IntKind.u64.wrap k).tmod (m : Int)) = (v : Int) ∧ v < m := by
  have h0 : 0 ≤ IntKind.u64.wrap k := by rw [IntKind.wrap_u64]; omega
  have h2 : (IntKind.u64.wrap k).tmod m = IntKind.u64.wrap k % m := Int.tmod_eq_emod_of_nonneg h0
  have h3 := Int.emod_nonneg (IntKind.u64.wrap k) (show (m : Int) ≠ 0 by omega)
  have h4 := Int.emod_lt_of_pos (IntKind.u64.wrap k) (show (0 : Int) < m by omega)
  refine ⟨(IntKind.u64.wrap k % m).toNat, ?_, by omega⟩
  rw [h2, IntWalk.wrap64_in _ ⟨by omega, by omega⟩]
  omega

/-- Slots of one byte each, from 0 on. -/
def rowsN (k : Nat) : List (Option (List UInt8)) := (List.range k).map fun i => some [UInt8.ofNat i]

/-- .. on a pad on which nothing has happened, the first so many safe. -/
def stN (k sf : Nat) : PadS := ⟨rowsN k, sf, false, 0, 0, [], 0⟩

theorem rowsN_length (k : Nat) : (rowsN k).length = k := by simp [rowsN]

theorem rowsN_succ (k : Nat) : rowsN (k + 1) = rowsN k ++ [some [UInt8.ofNat k]] := by simp [rowsN, List.range_succ]

theorem rowsN_take (n c : Nat) (h : c ≤ n) : (rowsN n).take c = rowsN c := by
  rw [rowsN, ← List.map_take, List.take_range, Nat.min_eq_left h]
  rfl

theorem rowsN_get (n i : Nat) (h : i < n) : (rowsN n)[i]? = some (some [UInt8.ofNat i]) := by simp [rowsN, h]

theorem stN_zero : stN 0 0 = pad0 := rfl

theorem stN_append (k sf : Nat) (h : k < 4000) : (stN k sf).append [UInt8.ofNat k] = (stN (k + 1) sf, 0) := by
  unfold PadS.append
  rw [if_neg (by simp [stN]), if_neg (by simp), if_neg (by simp [stN, rowsN_length]; omega)]
  simp [PadS.trips, stN, rowsN_succ]

theorem stN_trips (k sf : Nat) : (stN k sf).trips = (stN k sf, false) := by simp [PadS.trips, stN]

theorem stN_trim_no (k sf : Nat) (n : Int) (h : n < 0 ∨ (sf : Int) < n) : (stN k sf).trim n = (stN k sf, 1) := by
  unfold PadS.trim
  rw [if_neg (by simp [stN]), if_pos (show n < 0 ∨ ((stN k sf).safe : Int) < n from h)]

theorem stN_cut_no (k sf : Nat) (n : Int) (h : n < 0 ∨ (k : Int) < n) : (stN k sf).cut n = (stN k sf, 1) := by
  unfold PadS.cut
  rw [if_neg (by simp [stN]), if_pos (by simpa [stN, rowsN_length] using h)]

theorem stN_sync (k sf : Nat) : (stN k sf).sync = (stN k k, 0) := by
  unfold PadS.sync
  rw [if_neg (by simp [stN]), stN_trips, if_neg (by simp)]
  simp [stN, rowsN_length]

theorem stN_cut (n c : Nat) (h : c ≤ n) : (stN n n).cut (c : Int) = (stN c c, 0) := by
  unfold PadS.cut
  rw [if_neg (by simp [stN]), if_neg (by simp [stN, rowsN_length]; omega), stN_trips, if_neg (by simp)]
  simp [stN, rowsN_take n c h, h]

/-- What is left, once the first t were trimmed. -/
def stT (c t : Nat) : PadS := ⟨(rowsN c).drop t, c - t, false, 0, 0, [], 0⟩

theorem stT_length (c t : Nat) : (stT c t).slots.length = c - t := by simp [stT, rowsN_length]

theorem stN_trim (c t : Nat) (h : t ≤ c) : (stN c c).trim (t : Int) = (stT c t, 0) := by
  unfold PadS.trim
  rw [if_neg (by simp [stN]), if_neg (by simp [stN]; omega), stN_trips, if_neg (by simp)]
  simp [stN, stT]

theorem stT_read (c t i : Nat) (h : i < c - t) : (stT c t).read (i : Int) = ([UInt8.ofNat (t + i)], 0) := by
  unfold PadS.read
  rw [if_neg (by simp [stT]), if_neg (by rw [stT_length]; omega), Int.toNat_natCast]
  have e : (stT c t).slots[i]? = some (some [UInt8.ofNat (t + i)]) := by simp only [stT, List.getElem?_drop]; exact rowsN_get c (t + i) (by omega)
  rw [e]
  rfl

theorem stT_read_no (c t : Nat) : (stT c t).read ((c - t : Nat) : Int) = ([], 7) := by
  unfold PadS.read
  rw [if_neg (by simp [stT]), if_pos (.inr (by rw [stT_length]; exact Int.le_refl _))]

theorem ofNat_to {k : Nat} (h : k < 256) : ((UInt8.ofNat k).toNat : Int) = (k : Int) := by
  rw [UInt8.toNat_ofNat_of_lt' h]

set_option maxRecDepth 100000 in
set_option maxHeartbeats 4000000 in
theorem pends_walk (a0 a1 a2 : Int) (w : World) :
    Calls Try.prog 6 #[.int .i64 a0, .int .i64 a1, .int .i64 a2] w fun e w' => e = .returned (.bool true) ∧ Below w.heap.size w w' := by
  obtain ⟨K, hKd⟩ : ∃ K : Nat → Prop, K = fun b => b < w.heap.size := ⟨_, rfl⟩
  have HK : Hid (∀ b, K b → b < w.heap.size) := by rw [hKd]; exact fun _ h => h
  have HKB : Hid (∀ w1, Stay K w w1 → Below w.heap.size w w1) := by rw [hKd]; exact fun w1 h => below_of_stay h
  clear hKd
  obtain ⟨n, hn, hn40⟩ := modQ a0 40 (by omega) (by omega)
  obtain ⟨c, hc, hcn⟩ := modQ a2 (n + 1) (by omega) (by omega)
  obtain ⟨t, ht, htc⟩ := modQ a1 (c + 1) (by omega) (by omega)
  simp only [Int.natCast_add, Int.cast_ofNat_Int] at hn hc ht
  go_enter Try.func6, Try.ntmps6
  go_wp2_with fail
  refine (new_any K w HK.out).mono ?_
  rintro e w1 ⟨rfl, hp1, hb1⟩
  rw [← stN_zero] at hp1
  have HP1 : Hid _ := hp1
  have HS1 : Hid (Stay K w w1) := Stay.of_below hb1 HK.out
  clear hp1 hb1
  generalize w.heap.size = g at HP1 ⊢
  go_wp2_with fail
  go_loopw [8] (fun i wr => ∃ k : Nat, k ≤ n ∧ i = .int .i64 k ∧ Hid (PadAt K wr g (stN k 0)) ∧ Hid (Stay K w wr)) (fun i _ => n - (RowKit.intOf i).toNat)
  case atStart => exact ⟨0, Nat.zero_le _, rfl, HP1, HS1⟩
  case round =>
    obtain ⟨k, hk, rfl, hP, hS⟩ := hrel
    by_cases hlt : k < n
    · go_wp2_with fail
      refine (append_one (UInt8.ofNat k) (ofNat_to (by omega)) (stN_append k 0 (by omega)) HK.out hS.out hP.out rfl).mono ?_
      rintro e w2 ⟨rfl, hp2, hs2⟩
      have HP2 : Hid _ := hp2
      have HS2 : Hid _ := hs2
      clear hp2 hs2
      go_wp2
      exact ⟨⟨k + 1, by omega, by go_num, HP2.out, HS2.out⟩, by simp [RowKit.intOf]; omega⟩
    · obtain rfl : k = n := by omega
      have HKw : Hid (∀ w', Stay K w w' → ∀ b, K b → b < w'.heap.size) := fun w' h b hb => Nat.lt_of_lt_of_le (HK.out b hb) h.size
      clear HP1 HS1 hlt hk
      rcases Nat.eq_zero_or_pos k with hz | hz
      focus
        have hz' : (k : Int) ≤ 0 := by omega
        have HP2 : Hid (PadAt K wr g (stN k 0)) := hP
        have HS2 : Hid (Stay K w wr) := hS
        clear hz hP hS
        go_wp2_with fail
        clear hz'
      rotate_left
      focus
        go_wp2_with fail
        refine (trim_of _ (stN_trim_no k 0 1 (by omega)) (HKw.out _ hS.out) hP.out).mono ?_
        rintro e w2 ⟨rfl, hp2, hs2⟩
        have HP2 : Hid _ := hp2
        have HS2 : Hid _ := hS.out.trans hs2
        clear hp2 hs2 hP hS
        go_wp2_with fail
      all_goals
        refine (trim_of _ (stN_trim_no k 0 (-1) (by omega)) (HKw.out _ HS2.out) HP2.out).mono ?_
        rintro e w3 ⟨rfl, hp3, hs3⟩
        have HP3 : Hid _ := hp3
        have HS3 : Hid _ := HS2.out.trans hs3
        clear hp3 hs3 HP2 HS2
        go_wp2_with fail
        refine (cut_of _ (stN_cut_no k 0 ((k : Int) + 1) (by omega)) (HKw.out _ HS3.out) HP3.out).mono ?_
        rintro e w4 ⟨rfl, hp4, hs4⟩
        have HP4 : Hid _ := hp4
        have HS4 : Hid _ := HS3.out.trans hs4
        clear hp4 hs4 HP3 HS3
        go_wp2_with fail
        refine (sync_of _ (stN_sync k 0) HP4.out).mono ?_
        rintro e w5 ⟨rfl, hp5, hs5⟩
        have HP5 : Hid _ := hp5
        have HS5 : Hid _ := HS4.out.trans hs5
        clear hp5 hs5 HP4 HS4
        go_wp2_with fail
        refine (trim_of _ (stN_trim_no k k ((k : Int) + 1) (by omega)) (HKw.out _ HS5.out) HP5.out).mono ?_
        rintro e w6 ⟨rfl, hp6, hs6⟩
        have HP6 : Hid _ := hp6
        have HS6 : Hid _ := HS5.out.trans hs6
        clear hp6 hs6 HP5 HS5
        go_wp2_with fail
        refine (cut_of _ (stN_cut k c (by omega)) (HKw.out _ HS6.out) HP6.out).mono ?_
        rintro e w7 ⟨rfl, hp7, hs7⟩
        have HP7 : Hid _ := hp7
        have HS7 : Hid _ := HS6.out.trans hs7
        clear hp7 hs7 HP6 HS6
        go_wp2_with fail
        refine (len_any K g _ _ HP7.out).mono ?_
        rintro e w8 ⟨rfl, hw8⟩
        subst hw8
        rw [show (stN c c).slots.length = c from rowsN_length c]
        go_wp2_with fail
        refine (safe_any K g _ _ HP7.out).mono ?_
        rintro e w8 ⟨rfl, hw8⟩
        subst hw8
        rw [show (stN c c).safe = c from rfl]
        go_wp2_with fail
        refine (trim_of _ (stN_trim c t (by omega)) (HKw.out _ HS7.out) HP7.out).mono ?_
        rintro e w8 ⟨rfl, hp8, hs8⟩
        have HP8 : Hid _ := hp8
        have HS8 : Hid _ := HS7.out.trans hs8
        clear hp8 hs8 HP7 HS7
        have ect : ((c - t : Nat) : Int) = (c : Int) - (t : Int) := by omega
        have HE : Hid (((c - t : Nat) : Int) = (c : Int) - (t : Int)) := ect
        clear ect
        go_wp2_with fail
        refine (len_any K g _ _ HP8.out).mono ?_
        rintro e w9 ⟨rfl, hw9⟩
        subst hw9
        rw [stT_length, HE.out]
        go_wp2_with fail
        refine (safe_any K g _ _ HP8.out).mono ?_
        rintro e w9 ⟨rfl, hw9⟩
        subst hw9
        rw [show (stT c t).safe = c - t from rfl, HE.out]
        go_wp2_with fail
        go_loopw [9] (fun i wr => ∃ k : Nat, k ≤ c - t ∧ i = .int .i64 k ∧ Hid (PadAt K wr g (stT c t)) ∧ Hid (Stay K w wr)) (fun i _ => (c - t) - (RowKit.intOf i).toNat)
        case atStart => exact ⟨0, Nat.zero_le _, rfl, HP8, HS8⟩
        case round =>
          obtain ⟨i, hi, rfl, hP, hS⟩ := hrel
          by_cases hlt : i < c - t
          · first
            | (exfalso; omega)
            | (skip
               go_wp2_with fail
               refine (read_of _ (stT_read c t i hlt) hP.out).mono ?_
               rintro e w9 hg9
               obtain ⟨a9, cap9, rfl, _, hr9, hb9⟩ := hg9.rd
               have HP9 : Hid _ := hP.out.later hb9
               have HS9 : Hid _ := stay_later hS.out HK.out hb9
               have HR9 : Hid (Rd w9 a9 [UInt8.ofNat (t + i)]) := hr9
               clear hg9 hr9 hb9
               rw [show ([UInt8.ofNat (t + i)] : List UInt8).length = 1 from rfl]
               go_wp2_with fail
               refine (bytes_any _ _ 1 1 _ _ [UInt8.ofNat (t + i)] [UInt8.ofNat (t + i)] _ rfl rfl (by omega) (by omega) (by exact HR9.out.later ((Below.refl _ _).alloc (Nat.le_refl _) _)) (by exact (row_oneZ (UInt8.ofNat (t + i)) (by rw [ofNat_to (by omega)]; omega) rfl).rd)).mono ?_
               rintro e w10 ⟨rfl, hb10⟩
               have HB10 : Hid (Below w9.heap.size w9 w10) := chain ((Below.refl _ _).alloc (Nat.le_refl _) _) hb10
               clear hb10
               rw [decide_eq_true rfl]
               go_wp2
               exact ⟨⟨i + 1, by omega, by go_num, HP9.out.later HB10.out, stay_later HS9.out HK.out HB10.out⟩, by simp [RowKit.intOf]; omega⟩)
          · go_wp2_with fail
            rw [← HE.out]
            refine (read_of _ (stT_read_no c t) hP.out).mono ?_
            rintro e w9 hg9
            obtain ⟨a9, cap9, rfl, _, hr9, hb9⟩ := hg9.rd
            have HS9 : Hid _ := stay_later hS.out HK.out hb9
            clear hg9 hr9 hb9
            go_wp2_with fail
            refine (pwakes_any _).mono ?_
            rintro e w10 ⟨rfl, hb10⟩
            have HB10 : Hid _ := hb10
            clear hb10
            go_wp2
            go_ret
            exact ⟨rfl, HKB.out _ (stay_later HS9.out HK.out HB10.out)⟩

end Go.Proofs.Ytdeeagphipfcaaa
