/-
  Texts of the proof of SetExact, one behind the other.
-/
import Derived.Test.YtajlkaedkifaoaaRows
import Derived.Test.YtajlkaedkifaoaaG11SetExact
import Derived.Test.YtajlkaedkifaoaaG15SetExact
import Derived.Test.YtajlkaedkifaoaaG8SetExact
import Derived.WalkKit
import Derived.WalkSpells
import Derived.WalkLawsBesides
import Derived.Handy
import Derived.Lib.Bytealg
namespace Go.Proofs.Ytajlkaedkifaoaa
open Go.RowKit Go.Lib
set_option linter.unusedVariables false

set_option maxHeartbeats 400000 in
theorem vwithin_value (n : Int) (w : World) :
    Calls Try.prog 80 #[.int .i64 n, .int .i64 1152921504606846976] w fun e w' => e = .returned (.bool (decide (-1152921504606846976 ≤ n ∧ n ≤ 1152921504606846976))) ∧ w' = w := by
  go_enter Try.func80, Try.ntmps80
  go_wp2
  all_goals (go_ret; exact ⟨by simp <;> omega, rfl⟩)

set_option maxHeartbeats 400000 in
theorem vwithin_small (n : Int) (w : World) :
    Calls Try.prog 80 #[.int .i64 n, .int .i64 2147483648] w fun e w' => e = .returned (.bool (decide (-2147483648 ≤ n ∧ n ≤ 2147483648))) ∧ w' = w := by
  go_enter Try.func80, Try.ntmps80
  go_wp2
  all_goals (go_ret; exact ⟨by simp <;> omega, rfl⟩)

set_option maxHeartbeats 400000 in
theorem isRight_any (k i : Int) (s : ByteArray) (w : World) :
    Calls Try.prog 67 #[.agg #[.int .i64 k, .int .i64 i, .string s]] w fun e w' => e = .returned (.bool (okV ⟨k, i, s⟩)) ∧ Below w.heap.size w w' := by
  by_cases k1 : k = 1
  · subst k1
    go_enter Try.func67, Try.ntmps67
    go_wp2
    all_goals (rename_i hi; go_ret; exact ⟨by simp [okV, empty_size, hi], alloc_below _ _⟩)
  by_cases k2 : k = 2
  · subst k2
    by_cases h0 : i = 0
    · subst h0
      go_enter Try.func67, Try.ntmps67
      go_wp2
      go_ret
      exact ⟨by simp [okV, empty_size], alloc_below _ _⟩
    by_cases h1 : i = 1
    · subst h1
      go_enter Try.func67, Try.ntmps67
      go_wp2
      go_ret
      exact ⟨by simp [okV, empty_size], alloc_below _ _⟩
    · go_enter Try.func67, Try.ntmps67
      go_wp2
      go_ret
      exact ⟨by simp [okV]; omega, alloc_below _ _⟩
  by_cases k3 : k = 3
  · subst k3
    by_cases h : -1152921504606846976 ≤ i ∧ i ≤ 1152921504606846976
    · go_enter Try.func67, Try.ntmps67
      go_wp2_with fail
      refine (vwithin_value _ _).mono ?_
      rintro e w1 ⟨rfl, rfl⟩
      rw [decide_eq_true h]
      go_wp2
      go_ret
      exact ⟨by simp [okV, empty_size, h], alloc_below _ _⟩
    · go_enter Try.func67, Try.ntmps67
      go_wp2_with fail
      refine (vwithin_value _ _).mono ?_
      rintro e w1 ⟨rfl, rfl⟩
      rw [decide_eq_false h]
      go_wp2
      go_ret
      exact ⟨by simp [okV]; omega, alloc_below _ _⟩
  by_cases k4 : k = 4
  · subst k4
    go_enter Try.func67, Try.ntmps67
    go_wp2
    all_goals (rename_i hi; go_ret; exact ⟨by first | (simp [okV, hi]; done) | (simp [okV, hi]; omega), alloc_below _ _⟩)
  · rw [okV_none ⟨k1, k2, k3, k4⟩]
    go_enter Try.func67, Try.ntmps67
    go_wp2
    go_ret
    exact ⟨rfl, alloc_below _ _⟩

theorem isRight_of {b : Bool} (k i : Int) (s : ByteArray) (w : World) (h : okV ⟨k, i, s⟩ = b) :
    Calls Try.prog 67 #[.agg #[.int .i64 k, .int .i64 i, .string s]] w fun e w' => e = .returned (.bool b) ∧ Below w.heap.size w w' := by
  subst h
  exact isRight_any k i s w

set_option maxHeartbeats 400000 in
theorem valueCheck : ValueCheck := by
  intro k i s w
  cases hok : okV ⟨k, i, s⟩ with
  | true =>
    have e : chkV ⟨k, i, s⟩ = 0 := by simp [chkV, hok]
    rw [e]
    go_enter Try.func61, Try.ntmps61
    go_wp2_with fail
    refine (isRight_of _ _ _ _ hok).mono ?_
    rintro e w1 ⟨rfl, hb⟩
    go_wp2
    go_ret
    exact ⟨rfl, chain (alloc_below _ _) hb⟩
  | false =>
    have e : chkV ⟨k, i, s⟩ = 1 := by simp [chkV, hok]
    rw [e]
    go_enter Try.func61, Try.ntmps61
    go_wp2_with fail
    refine (isRight_of _ _ _ _ hok).mono ?_
    rintro e w1 ⟨rfl, hb⟩
    go_wp2
    go_ret
    exact ⟨rfl, chain (alloc_below _ _) hb⟩

set_option maxHeartbeats 400000 in
theorem isNaN_any (n : Int) (w : World) : Calls Try.prog 78 #[.int .i64 n] w fun e w' => e = .returned (.bool false) ∧ w' = w := by
  go_enter Try.func78, Try.ntmps78
  go_wp2
  go_ret
  exact ⟨by simp, rfl⟩

/-- How two numbers are ordered. -/
def cmpI (a b : Int) : Int := if a = b then 0 else sgnB (decide (a < b))

set_option maxHeartbeats 400000 in
theorem cmpInt_any (a b : Int) (w : World) : Calls Try.prog 65 #[.int .i64 a, .int .i64 b] w fun e w' => e = .returned (.int .i64 (cmpI a b)) ∧ w' = w := by
  rcases Int.lt_trichotomy a b with h | h | h
  · have e : cmpI a b = -1 := by unfold cmpI; rw [if_neg (by omega), decide_eq_true h]; rfl
    rw [e]
    go_enter Try.func65, Try.ntmps65
    go_wp2_with fail
    refine (isNaN_any _ _).mono ?_
    rintro e w1 ⟨rfl, rfl⟩
    go_wp2_with fail
    refine (isNaN_any _ _).mono ?_
    rintro e w1 ⟨rfl, rfl⟩
    go_wp2
    go_ret
    exact ⟨rfl, rfl⟩
  · have e : cmpI a b = 0 := by unfold cmpI; rw [if_pos h]
    rw [e]
    subst h
    go_enter Try.func65, Try.ntmps65
    go_wp2_with fail
    refine (isNaN_any _ _).mono ?_
    rintro e w1 ⟨rfl, rfl⟩
    go_wp2_with fail
    refine (isNaN_any _ _).mono ?_
    rintro e w1 ⟨rfl, rfl⟩
    go_wp2
    go_ret
    exact ⟨rfl, rfl⟩
  · have e : cmpI a b = 1 := by unfold cmpI; rw [if_neg (by omega), decide_eq_false (by omega)]; rfl
    rw [e]
    go_enter Try.func65, Try.ntmps65
    go_wp2_with fail
    refine (isNaN_any _ _).mono ?_
    rintro e w1 ⟨rfl, rfl⟩
    go_wp2_with fail
    refine (isNaN_any _ _).mono ?_
    rintro e w1 ⟨rfl, rfl⟩
    go_wp2
    go_ret
    exact ⟨rfl, rfl⟩

set_option maxHeartbeats 1000000 in
set_option maxRecDepth 100000 in
theorem compareString_any (a b : ByteArray) (w : World) :
    Calls Try.prog 79 #[.string a, .string b] w fun e w' => e = .returned (.int .i64 (compareBytes a.data.toList b.data.toList)) ∧ w' = w := by
  go_enter Try.func79, Try.ntmps79
  go_wp2
  rw [run_callFunc_extern Try.func86 (by kernel_rfl) (by kernel_rfl) (by kernel_rfl) (e := Extern.BytealgCompare.compare) (by kernel_rfl), run_compareString]
  simp only [Result.andThen]
  rw [Oper.upon_value]
  go_wp2
  go_ret
  exact ⟨rfl, rfl⟩

set_option maxHeartbeats 400000 in
theorem stringsCompare_any (a b : ByteArray) (w : World) :
    Calls Try.prog 66 #[.string a, .string b] w fun e w' => e = .returned (.int .i64 (compareBytes a.data.toList b.data.toList)) ∧ w' = w := by
  go_enter Try.func66, Try.ntmps66
  go_wp2_with fail
  refine (compareString_any _ _ _).mono ?_
  rintro e w' ⟨rfl, rfl⟩
  go_wp2
  go_ret
  exact ⟨rfl, rfl⟩

theorem compareBytes_eq : ∀ (a b : List UInt8), compareBytes a b = if a = b then 0 else sgnB (decide (a < b))
  | [], [] => by simp [compareBytes]
  | [], _ :: _ => by simp [compareBytes, sgnB]
  | _ :: _, [] => by simp [compareBytes, sgnB]
  | x :: a, y :: b => by
    unfold compareBytes
    rw [compareBytes_eq a b]
    by_cases h1 : x < y
    · have hne : x ≠ y := fun h => by subst h; exact UInt8.lt_irrefl x h1
      simp [h1, hne, sgnB, List.cons_lt_cons_iff]
    · by_cases h2 : y < x
      · have hne : x ≠ y := fun h => by subst h; exact UInt8.lt_irrefl x h2
        simp [h1, h2, hne, sgnB, List.cons_lt_cons_iff]
      · have he : x = y := UInt8.le_antisymm (UInt8.not_lt.1 h2) (UInt8.not_lt.1 h1)
        subst he
        simp

theorem cmpV_texts {k i : Int} {s s' : ByteArray} : cmpV ⟨k, i, s⟩ ⟨k, i, s'⟩ = compareBytes s.data.toList s'.data.toList := by
  rw [compareBytes_eq]
  simp only [cmpV, ByteArray.toList_eq, Proofs.bytesLess_eq]
  by_cases h : s.data.toList = s'.data.toList <;> simp [h]

set_option maxHeartbeats 400000 in
theorem valueCompare : ValueCompare := by
  intro k i s k' i' s' w
  by_cases h1 : k = k'
  · by_cases h2 : i = i'
    · subst h1 h2
      rw [cmpV_texts]
      have e1 : cmpI k k = 0 := by simp [cmpI]
      have e2 : cmpI i i = 0 := by simp [cmpI]
      go_enter Try.func59, Try.ntmps59
      go_wp2_with fail
      refine (cmpInt_any _ _ _).mono ?_
      rintro e w1 ⟨rfl, rfl⟩
      rw [e1]
      go_wp2_with fail
      refine (cmpInt_any _ _ _).mono ?_
      rintro e w1 ⟨rfl, rfl⟩
      rw [e2]
      go_wp2_with fail
      refine (stringsCompare_any _ _ _).mono ?_
      rintro e w1 ⟨rfl, rfl⟩
      go_wp2
      go_ret
      exact ⟨rfl, below_two _ _ _⟩
    · subst h1
      have e1 : cmpI k k = 0 := by simp [cmpI]
      have e2 : cmpV ⟨k, i, s⟩ ⟨k, i', s'⟩ = cmpI i i' := by simp [cmpV, cmpI, h2]
      have e3 : (cmpI i i' != 0) = true := by unfold cmpI; rw [if_neg h2]; simp [sgnB_ne]
      obtain ⟨c, hc⟩ : ∃ c, cmpI i i' = c := ⟨_, rfl⟩
      rw [e2, hc]
      rw [hc] at e3
      clear e2
      go_enter Try.func59, Try.ntmps59
      go_wp2_with fail
      refine (cmpInt_any _ _ _).mono ?_
      rintro e w1 ⟨rfl, rfl⟩
      rw [e1]
      go_wp2_with fail
      refine (cmpInt_any _ _ _).mono ?_
      rintro e w1 ⟨rfl, rfl⟩
      rw [hc]
      clear hc
      go_wp2
      go_ret
      exact ⟨rfl, below_two _ _ _⟩
  · have e2 : cmpV ⟨k, i, s⟩ ⟨k', i', s'⟩ = cmpI k k' := by simp [cmpV, cmpI, h1]
    have e3 : (cmpI k k' != 0) = true := by unfold cmpI; rw [if_neg h1]; simp [sgnB_ne]
    obtain ⟨c, hc⟩ : ∃ c, cmpI k k' = c := ⟨_, rfl⟩
    rw [e2, hc]
    rw [hc] at e3
    clear e2
    go_enter Try.func59, Try.ntmps59
    go_wp2_with fail
    refine (cmpInt_any _ _ _).mono ?_
    rintro e w1 ⟨rfl, rfl⟩
    rw [hc]
    clear hc
    go_wp2
    go_ret
    exact ⟨rfl, below_two _ _ _⟩

end Go.Proofs.Ytajlkaedkifaoaa

namespace Go.Proofs.Ytajlkaedkifaoaa
open Go.RowKit Go.Lib
set_option linter.unusedVariables false

theorem Box.set0 {w : World} {g : Nat} {k i : Int} {s : ByteArray} (h : Box w g k i s) (k' : Int) : Box (w.setCell ⟨g, 0, none⟩ (.int .i64 k')) g k' i s := by
  have := Go.heap_setCell_same w g 0 _ _ (.int .i64 k') h
  unfold Box
  rw [this]
  rfl

theorem Box.set1 {w : World} {g : Nat} {k i : Int} {s : ByteArray} (h : Box w g k i s) (i' : Int) : Box (w.setCell ⟨g, 1, none⟩ (.int .i64 i')) g k i' s := by
  have := Go.heap_setCell_same w g 1 _ _ (.int .i64 i') h
  unfold Box
  rw [this]
  rfl

theorem Box.set2 {w : World} {g : Nat} {k i : Int} {s : ByteArray} (h : Box w g k i s) (s' : ByteArray) : Box (w.setCell ⟨g, 2, none⟩ (.string s')) g k i s' := by
  have := Go.heap_setCell_same w g 2 _ _ (.string s') h
  unfold Box
  rw [this]
  rfl

theorem Box.free {w : World} {g : Nat} {k i : Int} {s : ByteArray} (h : Box w g k i s) (n : Nat) : w.frozen? ⟨g, n, none⟩ = false := by
  unfold Box at h
  simp [World.frozen?, h]

theorem rGet_one {l : List UInt8} {q : Nat} (h : q < l.length) : rGet l q 1 = (((l[q]?.getD 0).toNat : Int), (q : Int) + 1, 0) := by
  unfold rGet
  rw [if_neg (by omega), if_neg (by omega)]
  have e : (l.drop ((q : Nat) : Int).toNat).take (1 : Int).toNat = [l[q]?.getD 0] := by
    rw [Int.toNat_natCast, drop_at h]
    rfl
  rw [e]
  simp [num]

end Go.Proofs.Ytajlkaedkifaoaa
