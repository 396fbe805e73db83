/-
  What the calls of package value answer, of the landed code: what 'ValueApi' asks.
-/
import Derived.Test.YtmolklaammfbmaaRows
import Derived.Test.YtmolklaammfbmaaVApi
import Derived.Test.YtmolklaammfbmaaVRefRead
import Derived.Test.YtmolklaammfbmaaApi
import Derived.Test.YtmolklaammfbmaaSpec
import Derived.WalkKit
import Derived.WalkSpells
import Derived.WalkLawsBesides
import Derived.Handy
import Derived.Lib.Bytealg
namespace Go.Proofs.Ytmolklaammfbmaa
open Go.RowKit Go.Lib
set_option linter.unusedVariables false

set_option maxHeartbeats 400000 in
theorem vwithin_value (n : Int) (w : World) :
    Calls Try.prog 39 #[.int .i64 n, .int .i64 1152921504606846976] w fun e w' => e = .returned (.bool (decide (-1152921504606846976 ≤ n ∧ n ≤ 1152921504606846976))) ∧ w' = w := by
  go_enter Try.func39, Try.ntmps39
  go_wp2
  all_goals (go_ret; exact ⟨by simp <;> omega, rfl⟩)

set_option maxHeartbeats 400000 in
theorem vwithin_small (n : Int) (w : World) :
    Calls Try.prog 39 #[.int .i64 n, .int .i64 2147483648] w fun e w' => e = .returned (.bool (decide (-2147483648 ≤ n ∧ n ≤ 2147483648))) ∧ w' = w := by
  go_enter Try.func39, Try.ntmps39
  go_wp2
  all_goals (go_ret; exact ⟨by simp <;> omega, rfl⟩)

set_option maxHeartbeats 400000 in
theorem isType_any (t : Int) (w : World) :
    Calls Try.prog 34 #[.int .i64 t] w fun e w' => e = .returned (.bool (decide (2 ≤ t ∧ t ≤ 4))) ∧ w' = w := by
  by_cases h2 : t = 2
  · subst h2
    go_enter Try.func34, Try.ntmps34
    go_wp2
    go_ret
    exact ⟨rfl, rfl⟩
  by_cases h3 : t = 3
  · subst h3
    go_enter Try.func34, Try.ntmps34
    go_wp2
    go_ret
    exact ⟨rfl, rfl⟩
  have e : decide (2 ≤ t ∧ t ≤ 4) = (t == 2 || t == 3 || t == 4) := by
    rw [Bool.eq_iff_iff]
    simp
    omega
  rw [e]
  go_enter Try.func34, Try.ntmps34
  go_wp2
  go_ret
  exact ⟨rfl, rfl⟩

set_option maxHeartbeats 400000 in
theorem isRight_any (k i : Int) (s : ByteArray) (w : World) :
    Calls Try.prog 33 #[.agg #[.int .i64 k, .int .i64 i, .string s]] w fun e w' => e = .returned (.bool (okV ⟨k, i, s⟩)) ∧ Below w.heap.size w w' := by
  by_cases k1 : k = 1
  · subst k1
    go_enter Try.func33, Try.ntmps33
    go_wp2
    all_goals (rename_i hi; go_ret; exact ⟨by simp [okV, empty_size, hi], alloc_below _ _⟩)
  by_cases k2 : k = 2
  · subst k2
    by_cases h0 : i = 0
    · subst h0
      go_enter Try.func33, Try.ntmps33
      go_wp2
      go_ret
      exact ⟨by simp [okV, empty_size], alloc_below _ _⟩
    by_cases h1 : i = 1
    · subst h1
      go_enter Try.func33, Try.ntmps33
      go_wp2
      go_ret
      exact ⟨by simp [okV, empty_size], alloc_below _ _⟩
    · go_enter Try.func33, Try.ntmps33
      go_wp2
      go_ret
      exact ⟨by simp [okV]; omega, alloc_below _ _⟩
  by_cases k3 : k = 3
  · subst k3
    by_cases h : -1152921504606846976 ≤ i ∧ i ≤ 1152921504606846976
    · go_enter Try.func33, Try.ntmps33
      go_wp2_with fail
      refine (vwithin_value _ _).mono ?_
      rintro e w1 ⟨rfl, rfl⟩
      rw [decide_eq_true h]
      go_wp2
      go_ret
      exact ⟨by simp [okV, empty_size, h], alloc_below _ _⟩
    · go_enter Try.func33, Try.ntmps33
      go_wp2_with fail
      refine (vwithin_value _ _).mono ?_
      rintro e w1 ⟨rfl, rfl⟩
      rw [decide_eq_false h]
      go_wp2
      go_ret
      exact ⟨by simp [okV]; omega, alloc_below _ _⟩
  by_cases k4 : k = 4
  · subst k4
    go_enter Try.func33, Try.ntmps33
    go_wp2
    all_goals (rename_i hi; go_ret; exact ⟨by first | (simp [okV, hi]; done) | (simp [okV, hi]; omega), alloc_below _ _⟩)
  · rw [okV_none ⟨k1, k2, k3, k4⟩]
    go_enter Try.func33, Try.ntmps33
    go_wp2
    go_ret
    exact ⟨rfl, alloc_below _ _⟩

theorem isRight_of {b : Bool} (k i : Int) (s : ByteArray) (w : World) (h : okV ⟨k, i, s⟩ = b) :
    Calls Try.prog 33 #[.agg #[.int .i64 k, .int .i64 i, .string s]] w fun e w' => e = .returned (.bool b) ∧ Below w.heap.size w w' := by
  subst h
  exact isRight_any k i s w

set_option maxHeartbeats 400000 in
theorem valueCheck : ValueCheck := by
  intro k i s w
  cases hok : okV ⟨k, i, s⟩ with
  | true =>
    have e : chkV ⟨k, i, s⟩ = 0 := by simp [chkV, hok]
    rw [e]
    go_enter Try.func25, Try.ntmps25
    go_wp2_with fail
    refine (isRight_of _ _ _ _ hok).mono ?_
    rintro e w1 ⟨rfl, hb⟩
    go_wp2
    go_ret
    exact ⟨rfl, chain (alloc_below _ _) hb⟩
  | false =>
    have e : chkV ⟨k, i, s⟩ = 1 := by simp [chkV, hok]
    rw [e]
    go_enter Try.func25, Try.ntmps25
    go_wp2_with fail
    refine (isRight_of _ _ _ _ hok).mono ?_
    rintro e w1 ⟨rfl, hb⟩
    go_wp2
    go_ret
    exact ⟨rfl, chain (alloc_below _ _) hb⟩

set_option maxHeartbeats 400000 in
theorem isNaN_any (n : Int) (w : World) : Calls Try.prog 40 #[.int .i64 n] w fun e w' => e = .returned (.bool false) ∧ w' = w := by
  go_enter Try.func40, Try.ntmps40
  go_wp2
  go_ret
  exact ⟨by simp, rfl⟩

/-- How two numbers are ordered. -/
def cmpI (a b : Int) : Int := if a = b then 0 else sgnB (decide (a < b))

set_option maxHeartbeats 400000 in
theorem cmpInt_any (a b : Int) (w : World) : Calls Try.prog 36 #[.int .i64 a, .int .i64 b] w fun e w' => e = .returned (.int .i64 (cmpI a b)) ∧ w' = w := by
  rcases Int.lt_trichotomy a b with h | h | h
  · have e : cmpI a b = -1 := by unfold cmpI; rw [if_neg (by omega), decide_eq_true h]; rfl
    rw [e]
    go_enter Try.func36, Try.ntmps36
    go_wp2_with fail
    refine (isNaN_any _ _).mono ?_
    rintro e w1 ⟨rfl, rfl⟩
    go_wp2_with fail
    refine (isNaN_any _ _).mono ?_
    rintro e w1 ⟨rfl, rfl⟩
    go_wp2
    go_ret
    exact ⟨rfl, rfl⟩
  · have e : cmpI a b = 0 := by unfold cmpI; rw [if_pos h]
    rw [e]
    subst h
    go_enter Try.func36, Try.ntmps36
    go_wp2_with fail
    refine (isNaN_any _ _).mono ?_
    rintro e w1 ⟨rfl, rfl⟩
    go_wp2_with fail
    refine (isNaN_any _ _).mono ?_
    rintro e w1 ⟨rfl, rfl⟩
    go_wp2
    go_ret
    exact ⟨rfl, rfl⟩
  · have e : cmpI a b = 1 := by unfold cmpI; rw [if_neg (by omega), decide_eq_false (by omega)]; rfl
    rw [e]
    go_enter Try.func36, Try.ntmps36
    go_wp2_with fail
    refine (isNaN_any _ _).mono ?_
    rintro e w1 ⟨rfl, rfl⟩
    go_wp2_with fail
    refine (isNaN_any _ _).mono ?_
    rintro e w1 ⟨rfl, rfl⟩
    go_wp2
    go_ret
    exact ⟨rfl, rfl⟩

set_option maxHeartbeats 1000000 in
set_option maxRecDepth 100000 in
theorem compareString_any (a b : ByteArray) (w : World) :
    Calls Try.prog 41 #[.string a, .string b] w fun e w' => e = .returned (.int .i64 (compareBytes a.data.toList b.data.toList)) ∧ w' = w := by
  go_enter Try.func41, Try.ntmps41
  go_wp2
  rw [run_callFunc_extern Try.func42 (by kernel_rfl) (by kernel_rfl) (by kernel_rfl) (e := Extern.BytealgCompare.compare) (by kernel_rfl), run_compareString]
  simp only [Result.andThen]
  rw [Oper.upon_value]
  go_wp2
  go_ret
  exact ⟨rfl, rfl⟩

set_option maxHeartbeats 400000 in
theorem stringsCompare_any (a b : ByteArray) (w : World) :
    Calls Try.prog 37 #[.string a, .string b] w fun e w' => e = .returned (.int .i64 (compareBytes a.data.toList b.data.toList)) ∧ w' = w := by
  go_enter Try.func37, Try.ntmps37
  go_wp2_with fail
  refine (compareString_any _ _ _).mono ?_
  rintro e w' ⟨rfl, rfl⟩
  go_wp2
  go_ret
  exact ⟨rfl, rfl⟩

theorem compareBytes_eq : ∀ (a b : List UInt8), compareBytes a b = if a = b then 0 else sgnB (decide (a < b))
  | [], [] => by simp [compareBytes]
  | [], _ :: _ => by simp [compareBytes, sgnB]
  | _ :: _, [] => by simp [compareBytes, sgnB]
  | x :: a, y :: b => by
    unfold compareBytes
    rw [compareBytes_eq a b]
    by_cases h1 : x < y
    · have hne : x ≠ y := fun h => by subst h; exact UInt8.lt_irrefl x h1
      simp [h1, hne, sgnB, List.cons_lt_cons_iff]
    · by_cases h2 : y < x
      · have hne : x ≠ y := fun h => by subst h; exact UInt8.lt_irrefl x h2
        simp [h1, h2, hne, sgnB, List.cons_lt_cons_iff]
      · have he : x = y := UInt8.le_antisymm (UInt8.not_lt.1 h2) (UInt8.not_lt.1 h1)
        subst he
        simp

theorem cmpV_texts {k i : Int} {s s' : ByteArray} : cmpV ⟨k, i, s⟩ ⟨k, i, s'⟩ = compareBytes s.data.toList s'.data.toList := by
  rw [compareBytes_eq]
  simp only [cmpV, ByteArray.toList_eq, Proofs.bytesLess_eq]
  by_cases h : s.data.toList = s'.data.toList <;> simp [h]

set_option maxHeartbeats 400000 in
theorem valueCompare : ValueCompare := by
  intro k i s k' i' s' w
  by_cases h1 : k = k'
  · by_cases h2 : i = i'
    · subst h1 h2
      rw [cmpV_texts]
      have e1 : cmpI k k = 0 := by simp [cmpI]
      have e2 : cmpI i i = 0 := by simp [cmpI]
      go_enter Try.func29, Try.ntmps29
      go_wp2_with fail
      refine (cmpInt_any _ _ _).mono ?_
      rintro e w1 ⟨rfl, rfl⟩
      rw [e1]
      go_wp2_with fail
      refine (cmpInt_any _ _ _).mono ?_
      rintro e w1 ⟨rfl, rfl⟩
      rw [e2]
      go_wp2_with fail
      refine (stringsCompare_any _ _ _).mono ?_
      rintro e w1 ⟨rfl, rfl⟩
      go_wp2
      go_ret
      exact ⟨rfl, below_two _ _ _⟩
    · subst h1
      have e1 : cmpI k k = 0 := by simp [cmpI]
      have e2 : cmpV ⟨k, i, s⟩ ⟨k, i', s'⟩ = cmpI i i' := by simp [cmpV, cmpI, h2]
      have e3 : (cmpI i i' != 0) = true := by unfold cmpI; rw [if_neg h2]; simp [sgnB_ne]
      obtain ⟨c, hc⟩ : ∃ c, cmpI i i' = c := ⟨_, rfl⟩
      rw [e2, hc]
      rw [hc] at e3
      clear e2
      go_enter Try.func29, Try.ntmps29
      go_wp2_with fail
      refine (cmpInt_any _ _ _).mono ?_
      rintro e w1 ⟨rfl, rfl⟩
      rw [e1]
      go_wp2_with fail
      refine (cmpInt_any _ _ _).mono ?_
      rintro e w1 ⟨rfl, rfl⟩
      rw [hc]
      clear hc
      go_wp2
      go_ret
      exact ⟨rfl, below_two _ _ _⟩
  · have e2 : cmpV ⟨k, i, s⟩ ⟨k', i', s'⟩ = cmpI k k' := by simp [cmpV, cmpI, h1]
    have e3 : (cmpI k k' != 0) = true := by unfold cmpI; rw [if_neg h1]; simp [sgnB_ne]
    obtain ⟨c, hc⟩ : ∃ c, cmpI k k' = c := ⟨_, rfl⟩
    rw [e2, hc]
    rw [hc] at e3
    clear e2
    go_enter Try.func29, Try.ntmps29
    go_wp2_with fail
    refine (cmpInt_any _ _ _).mono ?_
    rintro e w1 ⟨rfl, rfl⟩
    rw [hc]
    clear hc
    go_wp2
    go_ret
    exact ⟨rfl, below_two _ _ _⟩

set_option maxHeartbeats 400000 in
theorem valueFits : ValueFits := by
  intro k i s t w
  by_cases h : 2 ≤ t ∧ t ≤ 4
  · cases hok : okV ⟨k, i, s⟩ with
    | false =>
      have e : fitsV ⟨k, i, s⟩ t = false := by simp [fitsV, hok]
      rw [e]
      go_enter Try.func26, Try.ntmps26
      go_wp2_with fail
      refine (isType_any _ _).mono ?_
      rintro e w1 ⟨rfl, rfl⟩
      rw [decide_eq_true h]
      go_wp2_with fail
      refine (isRight_of _ _ _ _ hok).mono ?_
      rintro e w2 ⟨rfl, hb⟩
      go_wp2
      go_ret
      exact ⟨rfl, chain (alloc_below _ _) hb⟩
    | true =>
      have e : fitsV ⟨k, i, s⟩ t = (decide (k = t) || decide (k = 1)) := by simp [fitsV, hok, h]
      rw [e]
      go_enter Try.func26, Try.ntmps26
      go_wp2_with fail
      refine (isType_any _ _).mono ?_
      rintro e w1 ⟨rfl, rfl⟩
      rw [decide_eq_true h]
      go_wp2_with fail
      refine (isRight_of _ _ _ _ hok).mono ?_
      rintro e w2 ⟨rfl, hb⟩
      obtain ⟨c0, _, _⟩ := box3 hb
      by_cases hk : k = t
      · subst hk
        go_wp2
        go_ret
        exact ⟨by simp, chain (alloc_below _ _) hb⟩
      · go_wp2
        go_ret
        exact ⟨by have q : (k == t) = false := by simp [hk]
                  rw [q, decide_eq_false hk]; rfl, chain (alloc_below _ _) hb⟩
  · have e : fitsV ⟨k, i, s⟩ t = false := by simp [fitsV, h]
    rw [e]
    go_enter Try.func26, Try.ntmps26
    go_wp2_with fail
    refine (isType_any _ _).mono ?_
    rintro e w1 ⟨rfl, rfl⟩
    rw [decide_eq_false h]
    go_wp2
    go_ret
    exact ⟨rfl, alloc_below _ _⟩

end Go.Proofs.Ytmolklaammfbmaa
