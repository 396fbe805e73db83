/-
  Texts of the proof of SetExact, one behind the other.
-/
import Derived.Test.YtajlkaedkifaoaaRows
import Derived.Test.YtajlkaedkifaoaaG6SetExact
import Derived.Test.YtajlkaedkifaoaaG9SetExact
import Derived.WalkKit
import Derived.WalkSpells
import Derived.WalkLawsBesides
namespace Go.Proofs.Ytajlkaedkifaoaa
open Go.RowKit Go.Lib
set_option linter.unusedVariables false

theorem okV_none {k i : Int} {s : ByteArray} (h : k ≠ 1 ∧ k ≠ 2 ∧ k ≠ 3 ∧ k ≠ 4) : okV ⟨k, i, s⟩ = false := by simp [okV, h]

set_option maxHeartbeats 400000 in
theorem rValue_any (k i : Int) (s : ByteArray) (w : World) :
    Calls Try.prog 47 #[.agg #[.int .i64 k, .int .i64 i, .string s]] w fun e w' => e = .returned (.bool (okV ⟨k, i, s⟩)) ∧ Below w.heap.size w w' := by
  by_cases k1 : k = 1
  · subst k1
    go_enter Try.func47, Try.ntmps47
    go_wp2
    all_goals (rename_i hi; go_ret; exact ⟨by simp [okV, empty_size, hi], alloc_below _ _⟩)
  by_cases k2 : k = 2
  · subst k2
    by_cases h : 0 ≤ i ∧ i ≤ 1
    · go_enter Try.func47, Try.ntmps47
      go_wp2_with fail
      refine (in_yes _ _ _ _ h.1 h.2).mono ?_
      rintro e w1 ⟨rfl, rfl⟩
      go_wp2
      go_ret
      exact ⟨by simp [okV, empty_size, h], alloc_below _ _⟩
    · go_enter Try.func47, Try.ntmps47
      go_wp2_with fail
      refine (in_no _ _ _ _ (by omega)).mono ?_
      rintro e w1 ⟨rfl, rfl⟩
      go_wp2
      go_ret
      exact ⟨by simp [okV]; omega, alloc_below _ _⟩
  by_cases k3 : k = 3
  · subst k3
    by_cases h : -1152921504606846976 ≤ i ∧ i ≤ 1152921504606846976
    · go_enter Try.func47, Try.ntmps47
      go_wp2_with fail
      refine (in_yes _ _ _ _ h.1 h.2).mono ?_
      rintro e w1 ⟨rfl, rfl⟩
      go_wp2
      go_ret
      exact ⟨by simp [okV, empty_size, h], alloc_below _ _⟩
    · go_enter Try.func47, Try.ntmps47
      go_wp2_with fail
      refine (in_no _ _ _ _ (by omega)).mono ?_
      rintro e w1 ⟨rfl, rfl⟩
      go_wp2
      go_ret
      exact ⟨by simp [okV]; omega, alloc_below _ _⟩
  by_cases k4 : k = 4
  · subst k4
    go_enter Try.func47, Try.ntmps47
    go_wp2
    all_goals (rename_i hi; go_ret; exact ⟨by first | (simp [okV, hi]; done) | (simp [okV, hi]; omega), alloc_below _ _⟩)
  · rw [okV_none ⟨k1, k2, k3, k4⟩]
    go_enter Try.func47, Try.ntmps47
    go_wp2
    go_ret
    exact ⟨rfl, alloc_below _ _⟩

theorem rValue_of {b : Bool} (k i : Int) (s : ByteArray) (w : World) (h : okV ⟨k, i, s⟩ = b) :
    Calls Try.prog 47 #[.agg #[.int .i64 k, .int .i64 i, .string s]] w fun e w' => e = .returned (.bool b) ∧ Below w.heap.size w w' := by
  subst h
  exact rValue_any k i s w

set_option maxHeartbeats 400000 in
theorem rsign_any (b : Bool) (w : World) :
    Calls Try.prog 57 #[.bool b] w fun e w' => e = .returned (.int .i64 (sgnB b)) ∧ w' = w := by
  cases b
  all_goals (go_enter Try.func57, Try.ntmps57; go_wp2; go_ret; exact ⟨rfl, rfl⟩)

set_option maxHeartbeats 400000 in
theorem rCompare_any (k i : Int) (s : ByteArray) (k' i' : Int) (s' : ByteArray) (w : World) :
    Calls Try.prog 56 #[.agg #[.int .i64 k, .int .i64 i, .string s], .agg #[.int .i64 k', .int .i64 i', .string s']] w fun e w' => e = .returned (.int .i64 (cmpV ⟨k, i, s⟩ ⟨k', i', s'⟩)) ∧ Below w.heap.size w w' := by
  by_cases h1 : k = k'
  · by_cases h2 : i = i'
    · by_cases h3 : s.toList = s'.toList
      · have e : cmpV ⟨k, i, s⟩ ⟨k', i', s'⟩ = 0 := by simp [cmpV, h1, h2, h3]
        rw [e]
        subst h1 h2
        have hs : (s.toList == s'.toList) = true := by simp [h3]
        go_enter Try.func56, Try.ntmps56
        go_wp2
        go_ret
        exact ⟨rfl, chain (alloc_below _ _) (alloc_below _ _)⟩
      · have e : cmpV ⟨k, i, s⟩ ⟨k', i', s'⟩ = sgnB (Op.bytesLess s.toList s'.toList) := by simp [cmpV, h1, h2, h3]
        rw [e]
        subst h1 h2
        have hs : (s.toList == s'.toList) = false := by simp [h3]
        go_enter Try.func56, Try.ntmps56
        go_wp2_with fail
        refine (rsign_any _ _).mono ?_
        rintro e w1 ⟨rfl, rfl⟩
        go_wp2
        go_ret
        exact ⟨rfl, chain (alloc_below _ _) (alloc_below _ _)⟩
    · have e : cmpV ⟨k, i, s⟩ ⟨k', i', s'⟩ = sgnB (decide (i < i')) := by simp [cmpV, h1, h2]
      rw [e]
      subst h1
      go_enter Try.func56, Try.ntmps56
      go_wp2_with fail
      refine (rsign_any _ _).mono ?_
      rintro e w1 ⟨rfl, rfl⟩
      go_wp2
      go_ret
      exact ⟨rfl, chain (alloc_below _ _) (alloc_below _ _)⟩
  · have e : cmpV ⟨k, i, s⟩ ⟨k', i', s'⟩ = sgnB (decide (k < k')) := by simp [cmpV, h1]
    rw [e]
    go_enter Try.func56, Try.ntmps56
    go_wp2_with fail
    refine (rsign_any _ _).mono ?_
    rintro e w1 ⟨rfl, rfl⟩
    go_wp2
    go_ret
    exact ⟨rfl, chain (alloc_below _ _) (alloc_below _ _)⟩

/-- A box that was made earlier holds what it was made of. -/
theorem box3 {w w1 : World} {a b c : Value} {t : Nat} (hb : Below (w.alloc (.cells #[a, b, c] t)).heap.size (w.alloc (.cells #[a, b, c] t)) w1) :
    w1.cell? ⟨w.heap.size, 0, none⟩ = some a ∧ w1.cell? ⟨w.heap.size, 1, none⟩ = some b ∧ w1.cell? ⟨w.heap.size, 2, none⟩ = some c :=
  ⟨cell_later hb (by simp), cell_later hb (by simp), cell_later hb (by simp)⟩

set_option maxHeartbeats 400000 in
theorem keepValue_any (k i : Int) (s : ByteArray) (k' i' : Int) (s' : ByteArray) (w : World) :
    Calls Try.prog 48 #[.agg #[.int .i64 k, .int .i64 i, .string s], .agg #[.int .i64 k', .int .i64 i', .string s']] w fun e w' => e = .returned (.bool (decide (k = k') && decide (i = i') && (s.toList == s'.toList))) ∧ Below w.heap.size w w' := by
  by_cases h1 : k = k'
  · subst h1
    by_cases h2 : i = i'
    · subst h2
      go_enter Try.func48, Try.ntmps48
      go_wp2
      go_ret
      exact ⟨by simp, chain (alloc_below _ _) (alloc_below _ _)⟩
    · go_enter Try.func48, Try.ntmps48
      go_wp2
      go_ret
      exact ⟨by simp [h2], chain (alloc_below _ _) (alloc_below _ _)⟩
  · go_enter Try.func48, Try.ntmps48
    go_wp2
    go_ret
    exact ⟨by simp [h1], chain (alloc_below _ _) (alloc_below _ _)⟩

end Go.Proofs.Ytajlkaedkifaoaa
