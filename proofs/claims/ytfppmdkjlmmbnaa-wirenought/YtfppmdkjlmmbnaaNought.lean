/-
  WireNought's walk: what the law answers, whatever its sign and its number.
-/
import Derived.Test.YtfppmdkjlmmbnaaRows
import Derived.Test.YtfppmdkjlmmbnaaApi
import Derived.Test.YtfppmdkjlmmbnaaKeep
import Derived.WalkKit
import Derived.WalkSpells
import Derived.WalkLawsBesides
import Derived.OpenShut
namespace Go.Proofs.Ytfppmdkjlmmbnaa
open Go.RowKit Go.Lib

theorem intBytes_set (k : Int) (x : UInt8) : ([] ++ intBytes k).set 0 x = x :: (be k.natAbs 8 ++ []) := by simp [intBytes]

theorem num_big (t : List UInt8) (ht : t.length = 7) : 1152921504606846976 < num (255 :: t) := by
  have h := num_append [255] t
  rw [ht] at h
  have e : num [255] = 255 := rfl
  rw [e] at h
  have e2 : (255 : Nat) * 256 ^ 7 = 18374686479671623680 := by decide
  rw [e2] at h
  simp at h
  omega

theorem be_cons8 (n : Nat) : ∃ y t, be n 8 = y :: t ∧ t.length = 7 := by
  have h := be_length n 8
  revert h
  cases be n 8 with
  | nil => intro h; simp at h
  | cons y t => intro h; exact ⟨y, t, rfl, by simpa using h⟩

set_option maxHeartbeats 400000 in
theorem nought_sign (x : UInt8) (n : Int) (w : World) (hx : 1 < x.toNat) :
    Calls Try.prog 8 #[.int .u8 (x.toNat : Int), .int .i64 n] w fun e w' => e = .returned (.bool true) ∧ Below w.heap.size w w' := by
  have hk1 := wi_lo n
  have hk2 := wi_hi n
  have hx2 := x.toNat_lt
  have HW : Hid (∀ w, Calls Try.prog 25 #[.int .i64 n] w fun e w' => e = .returned (.int .i64 (wi n)) ∧ w' = w) := within_any n
  generalize wi n = k at *
  go_enter Try.func8, Try.ntmps8
  go_wp2_with fail
  refine (HW.out _).mono ?_
  rintro e w1 ⟨rfl, rfl⟩
  go_wp2_with fail
  refine (putInt_len none 0 0 k [] _ rfl (by omega) hk1 hk2 (Rd.nil _ _)).mono ?_
  rintro e w2 ⟨g, rfl, hg, hrow, hb⟩
  obtain ⟨z, hc⟩ := hrow.some_cell 0 (by simp [intBytes_length])
  have hf := hrow.free 0
  have hrow2 := hrow.set 0 x
  have hb2 : Below w1.heap.size w1 (w2.setCell ⟨g, 0, none⟩ (.int .u8 (x.toNat : Int))) := hb.setCell hg _
  rw [intBytes_set] at hrow2
  clear hrow
  go_wp2_with fail
  refine (getInt_sign _ 9 _ 0 _ (be k.natAbs 8) [] x _ (by simp [be_length]) (by omega) (by omega) rfl (be_length _ _) hx hrow2.rd).mono ?_
  rintro e w3 ⟨rfl, rfl⟩
  go_wp2_with fail
  refine (HW.out _).mono ?_
  rintro e w4 ⟨rfl, rfl⟩
  go_wp2_with fail
  all_goals
    refine (wakes_any _).mono ?_
    rintro e w5 ⟨rfl, hb5⟩
    go_wp2
    go_ret
    exact ⟨rfl, chain hb2 hb5⟩

set_option maxHeartbeats 400000 in
theorem nought_nought (n : Int) (w : World) (h0 : wi n = 0) :
    Calls Try.prog 8 #[.int .u8 1, .int .i64 n] w fun e w' => e = .returned (.bool true) ∧ Below w.heap.size w w' := by
  have hk1 := wi_lo n
  have hk2 := wi_hi n
  have HW : Hid (∀ w, Calls Try.prog 25 #[.int .i64 n] w fun e w' => e = .returned (.int .i64 (wi n)) ∧ w' = w) := within_any n
  generalize wi n = k at *
  subst h0
  go_enter Try.func8, Try.ntmps8
  go_wp2_with fail
  refine (HW.out _).mono ?_
  rintro e w1 ⟨rfl, rfl⟩
  go_wp2_with fail
  refine (putInt_len none 0 0 0 [] _ rfl (by omega) hk1 hk2 (Rd.nil _ _)).mono ?_
  rintro e w2 ⟨g, rfl, hg, hrow, hb⟩
  obtain ⟨z, hc⟩ := hrow.some_cell 0 (by simp [intBytes_length])
  have hf := hrow.free 0
  have hrow2 := hrow.set 0 1
  have hb2 : Below w1.heap.size w1 (w2.setCell ⟨g, 0, none⟩ (.int .u8 1)) := hb.setCell hg _
  rw [intBytes_set] at hrow2
  clear hrow
  go_wp2_with fail
  refine (getInt_nought _ 9 _ 0 _ (be (0 : Int).natAbs 8) [] 1 _ (by simp [be_length]) (by omega) (by omega) rfl (be_length _ _) rfl rfl hrow2.rd).mono ?_
  rintro e w3 ⟨rfl, rfl⟩
  go_wp2_with fail
  refine (HW.out _).mono ?_
  rintro e w4 ⟨rfl, rfl⟩
  go_wp2_with fail
  all_goals
    refine (wakes_any _).mono ?_
    rintro e w5 ⟨rfl, hb5⟩
    go_wp2
    go_ret
    exact ⟨rfl, chain hb2 hb5⟩

set_option maxHeartbeats 400000 in
theorem nought_neg (n : Int) (w : World) (h0 : wi n ≠ 0) :
    Calls Try.prog 8 #[.int .u8 1, .int .i64 n] w fun e w' => e = .returned (.bool true) ∧ Below w.heap.size w w' := by
  have hk1 := wi_lo n
  have hk2 := wi_hi n
  have HW : Hid (∀ w, Calls Try.prog 25 #[.int .i64 n] w fun e w' => e = .returned (.int .i64 (wi n)) ∧ w' = w) := within_any n
  generalize wi n = k at *
  go_enter Try.func8, Try.ntmps8
  go_wp2_with fail
  refine (HW.out _).mono ?_
  rintro e w1 ⟨rfl, rfl⟩
  go_wp2_with fail
  refine (putInt_len none 0 0 k [] _ rfl (by omega) hk1 hk2 (Rd.nil _ _)).mono ?_
  rintro e w2 ⟨g, rfl, hg, hrow, hb⟩
  obtain ⟨z, hc⟩ := hrow.some_cell 0 (by simp [intBytes_length])
  have hf := hrow.free 0
  obtain ⟨z2, hc2⟩ := hrow.some_cell 1 (by simp [intBytes_length])
  have hf2 := hrow.free 1
  have hq := num_be_of_lt (n := k.natAbs) (k := 8) (by rw [pow8]; omega)
  have HQ : Hid (num (be k.natAbs 8) = k.natAbs) := hq
  clear hq
  have hrow2 := hrow.set 0 1
  have hb2 : Below w1.heap.size w1 (w2.setCell ⟨g, 0, none⟩ (.int .u8 1)) := hb.setCell hg _
  rw [intBytes_set] at hrow2
  clear hrow
  go_wp2_with fail
  refine (getInt_neg _ 9 _ 0 _ (be k.natAbs 8) [] 1 _ (by simp [be_length]) (by omega) (by omega) rfl (be_length _ _) rfl (by rw [HQ.out]; omega) (by rw [HQ.out]; omega) hrow2.rd).mono ?_
  rw [HQ.out]
  rintro e w3 ⟨rfl, hw3⟩
  subst hw3
  obtain ⟨y, t, hbe, ht⟩ := be_cons8 k.natAbs
  have hrow3 := hrow2.set 1 255
  rw [hbe] at hrow3
  have hrow4 : Row _ g (1 :: ((255 :: t) ++ [])) := hrow3
  have hb3 := hb2.setCell (p := ⟨g, 1, none⟩) hg (.int .u8 255)
  clear hrow3 hbe hrow2
  go_wp2_with fail
  refine (HW.out _).mono ?_
  rintro e w4 ⟨rfl, hw4⟩
  subst hw4
  go_wp2_with fail
  all_goals
    refine (getInt_over _ 9 _ 0 _ (255 :: t) [] 1 _ (by simp [ht]) (by omega) (by omega) rfl (by simp [ht]) (num_big t ht) hrow4.rd).mono ?_
    rintro e w5 ⟨rfl, hw5⟩
    subst hw5
    go_wp2_with fail
    refine (wakes_any _).mono ?_
    rintro e w6 ⟨rfl, hb6⟩
    go_wp2
    go_ret
    exact ⟨rfl, chain hb3 hb6⟩

set_option maxHeartbeats 400000 in
theorem nought_pos (n : Int) (w : World) :
    Calls Try.prog 8 #[.int .u8 0, .int .i64 n] w fun e w' => e = .returned (.bool true) ∧ Below w.heap.size w w' := by
  have hk1 := wi_lo n
  have hk2 := wi_hi n
  have HW : Hid (∀ w, Calls Try.prog 25 #[.int .i64 n] w fun e w' => e = .returned (.int .i64 (wi n)) ∧ w' = w) := within_any n
  generalize wi n = k at *
  go_enter Try.func8, Try.ntmps8
  go_wp2_with fail
  refine (HW.out _).mono ?_
  rintro e w1 ⟨rfl, rfl⟩
  go_wp2_with fail
  refine (putInt_len none 0 0 k [] _ rfl (by omega) hk1 hk2 (Rd.nil _ _)).mono ?_
  rintro e w2 ⟨g, rfl, hg, hrow, hb⟩
  obtain ⟨z, hc⟩ := hrow.some_cell 0 (by simp [intBytes_length])
  have hf := hrow.free 0
  obtain ⟨z2, hc2⟩ := hrow.some_cell 1 (by simp [intBytes_length])
  have hf2 := hrow.free 1
  have hq := num_be_of_lt (n := k.natAbs) (k := 8) (by rw [pow8]; omega)
  have HQ : Hid (num (be k.natAbs 8) = k.natAbs) := hq
  clear hq
  have hrow2 := hrow.set 0 0
  have hb2 : Below w1.heap.size w1 (w2.setCell ⟨g, 0, none⟩ (.int .u8 0)) := hb.setCell hg _
  rw [intBytes_set] at hrow2
  clear hrow
  go_wp2_with fail
  refine (getInt_pos _ 9 _ 0 _ (be k.natAbs 8) [] 0 _ (by simp [be_length]) (by omega) (by omega) rfl (be_length _ _) rfl (by rw [HQ.out]; omega) hrow2.rd).mono ?_
  rw [HQ.out]
  rintro e w3 ⟨rfl, hw3⟩
  subst hw3
  obtain ⟨y, t, hbe, ht⟩ := be_cons8 k.natAbs
  have hrow3 := hrow2.set 1 255
  rw [hbe] at hrow3
  have hrow4 : Row _ g (0 :: ((255 :: t) ++ [])) := hrow3
  have hb3 := hb2.setCell (p := ⟨g, 1, none⟩) hg (.int .u8 255)
  clear hrow3 hbe hrow2
  go_wp2_with fail
  refine (HW.out _).mono ?_
  rintro e w4 ⟨rfl, hw4⟩
  subst hw4
  go_wp2_with fail
  all_goals
    refine (getInt_over _ 9 _ 0 _ (255 :: t) [] 0 _ (by simp [ht]) (by omega) (by omega) rfl (by simp [ht]) (num_big t ht) hrow4.rd).mono ?_
    rintro e w5 ⟨rfl, hw5⟩
    subst hw5
    go_wp2_with fail
    refine (wakes_any _).mono ?_
    rintro e w6 ⟨rfl, hb6⟩
    go_wp2
    go_ret
    exact ⟨rfl, chain hb3 hb6⟩

theorem nought_walk (a n : Int) (w : World) (h0 : (Lit.int .u8 a).wf = true) :
    Calls Try.prog 8 #[.int .u8 a, .int .i64 n] w fun e w' => e = .returned (.bool true) ∧ Below w.heap.size w w' := by
  obtain ⟨h1, h2⟩ := bounds_u8 h0
  by_cases ha : 1 < a
  · have e : ((UInt8.ofNat a.toNat).toNat : Int) = a := by simp [UInt8.toNat_ofNat']; omega
    have := nought_sign (UInt8.ofNat a.toNat) n w (by omega)
    rw [e] at this
    exact this
  · have h : a = 0 ∨ a = 1 := by omega
    rcases h with rfl | rfl
    · exact nought_pos n w
    · by_cases hk : wi n = 0
      · exact nought_nought n w hk
      · exact nought_neg n w hk

end Go.Proofs.Ytfppmdkjlmmbnaa
