/-
  WireEnds' walk: what the law answers, whatever its three numbers.
-/
import Derived.Test.YtfppmdkjlmmbnaaRows
import Derived.Test.YtfppmdkjlmmbnaaApi
import Derived.Test.YtfppmdkjlmmbnaaKeep
import Derived.Test.YtfppmdkjlmmbnaaOrder
import Derived.WalkKit
import Derived.WalkSpells
import Derived.WalkLawsBesides
import Derived.OpenShut
import Derived.Laws.BitsAllLaws
namespace Go.Proofs.Ytfppmdkjlmmbnaa
open Go.RowKit Go.Lib

theorem rest_of (x : Int) (m : Nat) (hm : 0 < m) : ∃ k : Nat, k < m ∧ (IntKind.u64.wrap x).tmod (m : Int) = (k : Int) := by
  have h0 : 0 ≤ IntKind.u64.wrap x := by rw [IntKind.wrap_u64]; omega
  have h1 : (IntKind.u64.wrap x).tmod (m : Int) = IntKind.u64.wrap x % (m : Int) := Int.tmod_eq_emod_of_nonneg h0
  have h2 := Int.emod_nonneg (IntKind.u64.wrap x) (show (m : Int) ≠ 0 by omega)
  have h3 := Int.emod_lt_of_pos (IntKind.u64.wrap x) (show (0 : Int) < (m : Int) by omega)
  refine ⟨((IntKind.u64.wrap x).tmod (m : Int)).toNat, ?_, ?_⟩ <;> omega

set_option maxRecDepth 100000 in
set_option maxHeartbeats 400000 in
theorem ends_int_over (over what cut : Int) (w : World) (ho : (IntKind.u64.wrap over).tmod 2 = 1) (hw : (IntKind.u64.wrap what).tmod 3 = 0) :
    Calls Try.prog 5 #[.int .i64 over, .int .i64 what, .int .i64 cut] w fun e w' => e = .returned (.bool true) ∧ Below w.heap.size w w' := by
  go_enter Try.func5, Try.ntmps5
  go_wp2_with fail
  refine (putInt_no none 0 0 1152921504606846977 _ (by omega)).mono ?_
  rintro e w1 ⟨rfl, hx⟩
  subst hx
  go_wp2_with fail
  refine (putInt_no none 0 0 (-1152921504606846977) _ (by omega)).mono ?_
  rintro e w1 ⟨rfl, hx⟩
  subst hx
  go_wp2_with fail
  refine (wakes_any _).mono ?_
  rintro e w7 ⟨rfl, hb7⟩
  go_wp2
  go_ret
  exact ⟨rfl, hb7⟩

set_option maxRecDepth 100000 in
set_option maxHeartbeats 400000 in
theorem ends_int (over what cut : Int) (w : World) (ho : (IntKind.u64.wrap over).tmod 2 = 0) (hw : (IntKind.u64.wrap what).tmod 3 = 0) :
    Calls Try.prog 5 #[.int .i64 over, .int .i64 what, .int .i64 cut] w fun e w' => e = .returned (.bool true) ∧ Below w.heap.size w w' := by
  obtain ⟨k, hk, hke⟩ := rest_of cut 9 (by omega)
  have hke' : (IntKind.u64.wrap cut).tmod 9 = (k : Int) := hke
  clear hke
  go_enter Try.func5, Try.ntmps5
  go_wp2_with fail
  refine (putInt_len none 0 0 1152921504606846976 [] _ rfl (by omega) (by omega) (by omega) (Rd.nil _ _)).mono ?_
  rintro e w1 ⟨g1, rfl, hg1, hr1, hb1⟩
  go_wp2_with fail
  refine (putInt_len none 0 0 (-1152921504606846976) [] _ rfl (by omega) (by omega) (by omega) (Rd.nil _ _)).mono ?_
  rintro e w2 ⟨g2, rfl, hg2, hr2, hb2⟩
  have r1 := hr1.below hb2 hr1.lt
  go_wp2_with fail
  refine (getInt_back _ 9 9 0 1152921504606846976 ([] ++ intBytes 1152921504606846976) [] _ (by simp [intBytes_length]) (by omega) (by omega) (by omega) (by omega) (by simp) r1.rd).mono ?_
  rintro e w3 ⟨rfl, hx⟩
  subst hx
  go_wp2_with fail
  refine (getInt_back _ 9 9 0 (-1152921504606846976) ([] ++ intBytes (-1152921504606846976)) [] _ (by simp [intBytes_length]) (by omega) (by omega) (by omega) (by omega) (by simp) hr2.rd).mono ?_
  rintro e w3 ⟨rfl, hx⟩
  subst hx
  go_wp2_with fail
  refine (getInt_short _ k 9 0 _ (by omega) (by omega) (by omega) (by omega)).mono ?_
  rintro e w3 ⟨rfl, hx⟩
  subst hx
  go_wp2_with fail
  refine (wakes_any _).mono ?_
  rintro e w7 ⟨rfl, hb7⟩
  go_wp2
  go_ret
  exact ⟨rfl, chain (chain hb1 hb2) hb7⟩

theorem zero_text {w : World} {g n cap : Nat} (h : Row w g (List.replicate n 0)) :
    ∃ X : ByteArray, (convert 22 9 (.slice (some ⟨g, 0, none⟩) n cap)).run Try.prog w = .ok (.string X) w ∧ X.size = n := by
  obtain ⟨X, h1, h2⟩ := row_text (cap := cap) h (List.length_replicate (n := n))
  refine ⟨X, h1, ?_⟩
  rw [size_eq, ← ByteArray.toList_eq, h2]
  simp

theorem text_back (X : ByteArray) : (⟨X.data.toList.toArray⟩ : ByteArray) = X := by cases X; simp

set_option maxRecDepth 100000 in
set_option maxHeartbeats 400000 in
theorem ends_text_over (over what cut : Int) (w : World) (ho : (IntKind.u64.wrap over).tmod 2 = 1) (hw : (IntKind.u64.wrap what).tmod 3 = 1) :
    Calls Try.prog 5 #[.int .i64 over, .int .i64 what, .int .i64 cut] w fun e w' => e = .returned (.bool true) ∧ Below w.heap.size w w' := by
  obtain ⟨i0, hi, hz0, hz1, hz2⟩ := info_parts Try.info5
  go_enter Try.func5, Try.ntmps5
  go_wp2_with (at_make; refine wpList_make_full _ rfl _ _ 22 rfl w.heap.size 5 i0 (.int .u8 0) 1 Try.underlying22 hi hz0 hz1 .i64 .i64 _ _ 25 rfl rfl (by omega) (by omega) (by rw [hz2]; omega) (by unfold maxLen; omega) (Nat.le_refl _) ?_; intro w1 hown hgr; have hrow := row_made hown; have hb : Below w.heap.size w w1 := (Below.refl _ _).grown hgr (Nat.le_refl _) (fun k hk => by cases hk); obtain ⟨X, hcv, hXs⟩ := zero_text (cap := 25) hrow; clear hown hgr hrow)
  refine (putText_no none 0 0 X _ (by omega) (by omega)).mono ?_
  rintro e w2 ⟨rfl, hx⟩
  subst hx
  go_wp2_with fail
  refine (wakes_any _).mono ?_
  rintro e w7 ⟨rfl, hb7⟩
  go_wp2
  go_ret
  exact ⟨rfl, chain hb hb7⟩

set_option maxRecDepth 100000 in
set_option maxHeartbeats 400000 in
theorem ends_text (over what cut : Int) (w : World) (ho : (IntKind.u64.wrap over).tmod 2 = 0) (hw : (IntKind.u64.wrap what).tmod 3 = 1) :
    Calls Try.prog 5 #[.int .i64 over, .int .i64 what, .int .i64 cut] w fun e w' => e = .returned (.bool true) ∧ Below w.heap.size w w' := by
  obtain ⟨k, hk, hke⟩ := rest_of cut 24 (by omega)
  have hke' : (IntKind.u64.wrap cut).tmod 24 = (k : Int) := hke
  clear hke
  obtain ⟨i0, hi, hz0, hz1, hz2⟩ := info_parts Try.info5
  go_enter Try.func5, Try.ntmps5
  go_wp2_with (at_make; refine wpList_make_full _ rfl _ _ 22 rfl w.heap.size 5 i0 (.int .u8 0) 1 Try.underlying22 hi hz0 hz1 .i64 .i64 _ _ 24 rfl rfl (by omega) (by omega) (by rw [hz2]; omega) (by unfold maxLen; omega) (Nat.le_refl _) ?_; intro w1 hown hgr; have hrow := row_made hown; have hb : Below w.heap.size w w1 := (Below.refl _ _).grown hgr (Nat.le_refl _) (fun k hk => by cases hk); obtain ⟨X, hcv, hXs⟩ := zero_text (cap := 24) hrow; clear hown hgr hrow)
  refine (putText_len none 0 0 X [] _ rfl (by omega) (by omega) (Rd.nil _ _)).mono ?_
  rintro e w2 ⟨g2, rfl, hg2, hr2, hb2⟩
  have hd : X.data.toList.length = 24 := by rw [← size_eq]; exact hXs
  have HD : Hid (X.data.toList.length = 24) := hd
  clear hd
  go_wp2_with fail
  have hgt := fun wx (hq : Rd wx (some ⟨g2, 0, none⟩) ([] ++ textBytes X.data.toList)) => getText_back (some ⟨g2, 0, none⟩) 25 25 0 ([] ++ textBytes X.data.toList) X.data.toList [] wx (by simp [textBytes_length, HD.out]) (by omega) (by omega) (by rw [HD.out]; omega) (by simp) hq
  rw [text_back, HD.out] at hgt
  refine (hgt _ hr2.rd).mono ?_
  clear hgt
  rintro e w3 ⟨rfl, hb3⟩
  have r2 := hr2.below hb3 hr2.lt
  have hcut := r2.rd.cut 0 k
  rw [Nat.add_zero, List.drop_zero, List.nil_append] at hcut
  clear hr2
  rcases Nat.eq_zero_or_pos k with h0 | h0
  · subst h0
    go_wp2_with fail
    refine (getText_end _ 0 25 _ (by omega)).mono ?_
    rintro e w4 ⟨rfl, hx⟩
    subst hx
    go_wp2_with fail
    refine (wakes_any _).mono ?_
    rintro e w7 ⟨rfl, hb7⟩
    go_wp2
    go_ret
    exact ⟨rfl, chain (chain (chain hb hb2) hb3) hb7⟩
  · have hsh := fun wx (hq : Rd wx (some ⟨g2, 0, none⟩) ((textBytes X.data.toList).take k)) => getText_short (some ⟨g2, 0, none⟩) k 25 0 ((textBytes X.data.toList).take k) (X.data.toList.take (k - 1)) (UInt8.ofNat X.data.toList.length) wx (by simp [textBytes_length, HD.out]; omega) (by omega) (by omega) (by obtain ⟨j, rfl⟩ : ∃ j, k = j + 1 := ⟨k - 1, by omega⟩; simp [textBytes]) (by rw [HD.out]; decide) (by rw [HD.out, List.length_take, HD.out]; show _ < 24; omega) hq
    have HS : Hid (∀ wx, Rd wx (some ⟨g2, 0, none⟩) ((textBytes X.data.toList).take k) → _) := hsh
    clear hsh
    go_wp2_with fail
    refine (HS.out _ hcut).mono ?_
    rintro e w4 ⟨rfl, hb4⟩
    go_wp2_with fail
    refine (wakes_any _).mono ?_
    rintro e w7 ⟨rfl, hb7⟩
    go_wp2
    go_ret
    exact ⟨rfl, chain (chain (chain (chain hb hb2) hb3) hb4) hb7⟩

theorem full_of (s : Nat) (h1 : 1 ≤ s) (h7 : s ≤ 7) : ∃ M : Nat, M + 1 = 256 ^ s ∧ M < 72057594037927936 ∧ wrap64 (wrap64 (2 ^ (8 * s)) - 1) = (M : Int) := by
  have h56 := pow_le56 s h7
  have hpos : 0 < 256 ^ s := Nat.pos_of_ne_zero (by simp)
  refine ⟨256 ^ s - 1, by omega, by omega, ?_⟩
  rw [wrap_pow s h1 h7, IntWalk.wrap64_in _ ⟨by omega, by omega⟩]
  omega

set_option maxRecDepth 100000 in
set_option maxHeartbeats 400000 in
theorem ends_put_over (over what cut : Int) (w : World) (ho : (IntKind.u64.wrap over).tmod 2 = 1) (hw : (IntKind.u64.wrap what).tmod 3 = 2) :
    Calls Try.prog 5 #[.int .i64 over, .int .i64 what, .int .i64 cut] w fun e w' => e = .returned (.bool true) ∧ Below w.heap.size w w' := by
  obtain ⟨s, hs1, hs7, hse⟩ := size_of cut
  obtain ⟨M, hM, hMb, hMe⟩ := full_of s hs1 hs7
  have HM : Hid (M + 1 = 256 ^ s) := hM
  clear hM
  go_enter Try.func5, Try.ntmps5
  go_wp2_with fail
  refine (put_no none 0 0 s _ _ hs1 hs7 (Or.inr (by rw [← HM.out]; omega))).mono ?_
  rintro e w1 ⟨rfl, hx⟩
  subst hx
  go_wp2_with fail
  refine (wakes_any _).mono ?_
  rintro e w7 ⟨rfl, hb7⟩
  go_wp2
  go_ret
  exact ⟨rfl, hb7⟩

set_option maxRecDepth 100000 in
set_option maxHeartbeats 400000 in
theorem ends_put (over what cut : Int) (w : World) (ho : (IntKind.u64.wrap over).tmod 2 = 0) (hw : (IntKind.u64.wrap what).tmod 3 = 2) :
    Calls Try.prog 5 #[.int .i64 over, .int .i64 what, .int .i64 cut] w fun e w' => e = .returned (.bool true) ∧ Below w.heap.size w w' := by
  obtain ⟨s, hs1, hs7, hse⟩ := size_of cut
  obtain ⟨M, hM, hMb, hMe⟩ := full_of s hs1 hs7
  have HM : Hid (M + 1 = 256 ^ s) := hM
  clear hM
  go_enter Try.func5, Try.ntmps5
  go_wp2_with fail
  refine (put_len none 0 0 M s [] _ rfl (by omega) hs1 hs7 (by rw [← HM.out]; omega) (Rd.nil _ _)).mono ?_
  rintro e w1 ⟨g1, rfl, hg1, hr1, hb1⟩
  go_wp2_with fail
  refine (get_back _ s s 0 M s ([] ++ be M s) [] _ (by simp [be_length]) (by omega) (by omega) hs1 hs7 (by rw [← HM.out]; omega) (by simp) hr1.rd).mono ?_
  rintro e w2 ⟨rfl, hx⟩
  subst hx
  go_wp2_with fail
  refine (get_short _ s s 1 s _ (by omega) (by omega) (by omega) (by omega) (by omega) (by omega)).mono ?_
  rintro e w2 ⟨rfl, hx⟩
  subst hx
  go_wp2_with fail
  refine (wakes_any _).mono ?_
  rintro e w7 ⟨rfl, hb7⟩
  go_wp2
  go_ret
  exact ⟨rfl, chain hb1 hb7⟩

theorem ends_walk (over what cut : Int) (w : World) :
    Calls Try.prog 5 #[.int .i64 over, .int .i64 what, .int .i64 cut] w fun e w' => e = .returned (.bool true) ∧ Below w.heap.size w w' := by
  obtain ⟨o, ho, hoe⟩ := rest_of over 2 (by omega)
  obtain ⟨v, hv, hve⟩ := rest_of what 3 (by omega)
  have h1 : o = 0 ∨ o = 1 := by omega
  have h2 : v = 0 ∨ v = 1 ∨ v = 2 := by omega
  rcases h1 with rfl | rfl <;> rcases h2 with rfl | rfl | rfl
  · exact ends_int over what cut w hoe hve
  · exact ends_text over what cut w hoe hve
  · exact ends_put over what cut w hoe hve
  · exact ends_int_over over what cut w hoe hve
  · exact ends_text_over over what cut w hoe hve
  · exact ends_put_over over what cut w hoe hve

end Go.Proofs.Ytfppmdkjlmmbnaa
