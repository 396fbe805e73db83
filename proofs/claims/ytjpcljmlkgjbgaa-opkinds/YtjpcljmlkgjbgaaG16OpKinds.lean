/-
  Texts of the proof of OpKinds, one behind the other.
-/
import Derived.Test.YtjpcljmlkgjbgaaRows
import Derived.Test.YtjpcljmlkgjbgaaG11OpKinds
import Derived.Test.YtjpcljmlkgjbgaaG15OpKinds
import Derived.Test.YtjpcljmlkgjbgaaG8OpKinds
import Derived.WalkKit
import Derived.WalkSpells
import Derived.WalkLawsBesides
import Derived.Handy
import Derived.Lib.Bytealg
namespace Go.Proofs.Ytjpcljmlkgjbgaa
open Go.RowKit Go.Lib
set_option linter.unusedVariables false

set_option maxHeartbeats 400000 in
theorem vwithin_value (n : Int) (w : World) :
    Calls Try.prog 119 #[.int .i64 n, .int .i64 1152921504606846976] w fun e w' => e = .returned (.bool (decide (-1152921504606846976 ≤ n ∧ n ≤ 1152921504606846976))) ∧ w' = w := by
  go_enter Try.func119, Try.ntmps119
  go_wp2
  all_goals (go_ret; exact ⟨by simp <;> omega, rfl⟩)

set_option maxHeartbeats 400000 in
theorem vwithin_small (n : Int) (w : World) :
    Calls Try.prog 119 #[.int .i64 n, .int .i64 2147483648] w fun e w' => e = .returned (.bool (decide (-2147483648 ≤ n ∧ n ≤ 2147483648))) ∧ w' = w := by
  go_enter Try.func119, Try.ntmps119
  go_wp2
  all_goals (go_ret; exact ⟨by simp <;> omega, rfl⟩)

set_option maxHeartbeats 400000 in
theorem isType_any (t : Int) (w : World) :
    Calls Try.prog 121 #[.int .i64 t] w fun e w' => e = .returned (.bool (decide (2 ≤ t ∧ t ≤ 4))) ∧ w' = w := by
  by_cases h2 : t = 2
  · subst h2
    go_enter Try.func121, Try.ntmps121
    go_wp2
    go_ret
    exact ⟨rfl, rfl⟩
  by_cases h3 : t = 3
  · subst h3
    go_enter Try.func121, Try.ntmps121
    go_wp2
    go_ret
    exact ⟨rfl, rfl⟩
  have e : decide (2 ≤ t ∧ t ≤ 4) = (t == 2 || t == 3 || t == 4) := by
    rw [Bool.eq_iff_iff]
    simp
    omega
  rw [e]
  go_enter Try.func121, Try.ntmps121
  go_wp2
  go_ret
  exact ⟨rfl, rfl⟩

set_option maxHeartbeats 400000 in
theorem isRight_any (k i : Int) (s : ByteArray) (w : World) :
    Calls Try.prog 107 #[.agg #[.int .i64 k, .int .i64 i, .string s]] w fun e w' => e = .returned (.bool (okV ⟨k, i, s⟩)) ∧ Below w.heap.size w w' := by
  by_cases k1 : k = 1
  · subst k1
    go_enter Try.func107, Try.ntmps107
    go_wp2
    all_goals (rename_i hi; go_ret; exact ⟨by simp [okV, empty_size, hi], alloc_below _ _⟩)
  by_cases k2 : k = 2
  · subst k2
    by_cases h0 : i = 0
    · subst h0
      go_enter Try.func107, Try.ntmps107
      go_wp2
      go_ret
      exact ⟨by simp [okV, empty_size], alloc_below _ _⟩
    by_cases h1 : i = 1
    · subst h1
      go_enter Try.func107, Try.ntmps107
      go_wp2
      go_ret
      exact ⟨by simp [okV, empty_size], alloc_below _ _⟩
    · go_enter Try.func107, Try.ntmps107
      go_wp2
      go_ret
      exact ⟨by simp [okV]; omega, alloc_below _ _⟩
  by_cases k3 : k = 3
  · subst k3
    by_cases h : -1152921504606846976 ≤ i ∧ i ≤ 1152921504606846976
    · go_enter Try.func107, Try.ntmps107
      go_wp2_with fail
      refine (vwithin_value _ _).mono ?_
      rintro e w1 ⟨rfl, rfl⟩
      rw [decide_eq_true h]
      go_wp2
      go_ret
      exact ⟨by simp [okV, empty_size, h], alloc_below _ _⟩
    · go_enter Try.func107, Try.ntmps107
      go_wp2_with fail
      refine (vwithin_value _ _).mono ?_
      rintro e w1 ⟨rfl, rfl⟩
      rw [decide_eq_false h]
      go_wp2
      go_ret
      exact ⟨by simp [okV]; omega, alloc_below _ _⟩
  by_cases k4 : k = 4
  · subst k4
    go_enter Try.func107, Try.ntmps107
    go_wp2
    all_goals (rename_i hi; go_ret; exact ⟨by first | (simp [okV, hi]; done) | (simp [okV, hi]; omega), alloc_below _ _⟩)
  · rw [okV_none ⟨k1, k2, k3, k4⟩]
    go_enter Try.func107, Try.ntmps107
    go_wp2
    go_ret
    exact ⟨rfl, alloc_below _ _⟩

theorem isRight_of {b : Bool} (k i : Int) (s : ByteArray) (w : World) (h : okV ⟨k, i, s⟩ = b) :
    Calls Try.prog 107 #[.agg #[.int .i64 k, .int .i64 i, .string s]] w fun e w' => e = .returned (.bool b) ∧ Below w.heap.size w w' := by
  subst h
  exact isRight_any k i s w

set_option maxHeartbeats 400000 in
theorem valueCheck : ValueCheck := by
  intro k i s w
  cases hok : okV ⟨k, i, s⟩ with
  | true =>
    have e : chkV ⟨k, i, s⟩ = 0 := by simp [chkV, hok]
    rw [e]
    go_enter Try.func97, Try.ntmps97
    go_wp2_with fail
    refine (isRight_of _ _ _ _ hok).mono ?_
    rintro e w1 ⟨rfl, hb⟩
    go_wp2
    go_ret
    exact ⟨rfl, chain (alloc_below _ _) hb⟩
  | false =>
    have e : chkV ⟨k, i, s⟩ = 1 := by simp [chkV, hok]
    rw [e]
    go_enter Try.func97, Try.ntmps97
    go_wp2_with fail
    refine (isRight_of _ _ _ _ hok).mono ?_
    rintro e w1 ⟨rfl, hb⟩
    go_wp2
    go_ret
    exact ⟨rfl, chain (alloc_below _ _) hb⟩

/-- How two numbers are ordered. -/
def cmpI (a b : Int) : Int := if a = b then 0 else sgnB (decide (a < b))

theorem compareBytes_eq : ∀ (a b : List UInt8), compareBytes a b = if a = b then 0 else sgnB (decide (a < b))
  | [], [] => by simp [compareBytes]
  | [], _ :: _ => by simp [compareBytes, sgnB]
  | _ :: _, [] => by simp [compareBytes, sgnB]
  | x :: a, y :: b => by
    unfold compareBytes
    rw [compareBytes_eq a b]
    by_cases h1 : x < y
    · have hne : x ≠ y := fun h => by subst h; exact UInt8.lt_irrefl x h1
      simp [h1, hne, sgnB, List.cons_lt_cons_iff]
    · by_cases h2 : y < x
      · have hne : x ≠ y := fun h => by subst h; exact UInt8.lt_irrefl x h2
        simp [h1, h2, hne, sgnB, List.cons_lt_cons_iff]
      · have he : x = y := UInt8.le_antisymm (UInt8.not_lt.1 h2) (UInt8.not_lt.1 h1)
        subst he
        simp

theorem cmpV_texts {k i : Int} {s s' : ByteArray} : cmpV ⟨k, i, s⟩ ⟨k, i, s'⟩ = compareBytes s.data.toList s'.data.toList := by
  rw [compareBytes_eq]
  simp only [cmpV, ByteArray.toList_eq, Proofs.bytesLess_eq]
  by_cases h : s.data.toList = s'.data.toList <;> simp [h]

set_option maxHeartbeats 400000 in
theorem valueFits : ValueFits := by
  intro k i s t w
  by_cases h : 2 ≤ t ∧ t ≤ 4
  · cases hok : okV ⟨k, i, s⟩ with
    | false =>
      have e : fitsV ⟨k, i, s⟩ t = false := by simp [fitsV, hok]
      rw [e]
      go_enter Try.func111, Try.ntmps111
      go_wp2_with fail
      refine (isType_any _ _).mono ?_
      rintro e w1 ⟨rfl, rfl⟩
      rw [decide_eq_true h]
      go_wp2_with fail
      refine (isRight_of _ _ _ _ hok).mono ?_
      rintro e w2 ⟨rfl, hb⟩
      go_wp2
      go_ret
      exact ⟨rfl, chain (alloc_below _ _) hb⟩
    | true =>
      have e : fitsV ⟨k, i, s⟩ t = (decide (k = t) || decide (k = 1)) := by simp [fitsV, hok, h]
      rw [e]
      go_enter Try.func111, Try.ntmps111
      go_wp2_with fail
      refine (isType_any _ _).mono ?_
      rintro e w1 ⟨rfl, rfl⟩
      rw [decide_eq_true h]
      go_wp2_with fail
      refine (isRight_of _ _ _ _ hok).mono ?_
      rintro e w2 ⟨rfl, hb⟩
      obtain ⟨c0, _, _⟩ := box3 hb
      by_cases hk : k = t
      · subst hk
        go_wp2
        go_ret
        exact ⟨by simp, chain (alloc_below _ _) hb⟩
      · go_wp2
        go_ret
        exact ⟨by have q : (k == t) = false := by simp [hk]
                  rw [q, decide_eq_false hk]; rfl, chain (alloc_below _ _) hb⟩
  · have e : fitsV ⟨k, i, s⟩ t = false := by simp [fitsV, h]
    rw [e]
    go_enter Try.func111, Try.ntmps111
    go_wp2_with fail
    refine (isType_any _ _).mono ?_
    rintro e w1 ⟨rfl, rfl⟩
    rw [decide_eq_false h]
    go_wp2
    go_ret
    exact ⟨rfl, alloc_below _ _⟩

set_option maxHeartbeats 400000 in
theorem valueSmall : ValueSmall := by
  intro k i s w
  cases hok : okV ⟨k, i, s⟩ with
  | false =>
    have e : smallV ⟨k, i, s⟩ = false := by simp [smallV, hok]
    rw [e]
    go_enter Try.func116, Try.ntmps116
    go_wp2_with fail
    refine (isRight_of _ _ _ _ hok).mono ?_
    rintro e w2 ⟨rfl, hb⟩
    go_wp2
    go_ret
    exact ⟨rfl, chain (alloc_below _ _) hb⟩
  | true =>
    go_enter Try.func116, Try.ntmps116
    go_wp2_with fail
    refine (isRight_of _ _ _ _ hok).mono ?_
    rintro e w2 ⟨rfl, hb⟩
    obtain ⟨c0, c1, _⟩ := box3 hb
    by_cases hk : k = 3
    · subst hk
      go_wp2_with fail
      refine (vwithin_small _ _).mono ?_
      rintro e w3 ⟨rfl, rfl⟩
      go_wp2
      go_ret
      exact ⟨by simp [smallV, hok], chain (alloc_below _ _) hb⟩
    · go_wp2
      go_ret
      exact ⟨by simp [smallV, hok, hk], chain (alloc_below _ _) hb⟩

end Go.Proofs.Ytjpcljmlkgjbgaa

namespace Go.Proofs.Ytjpcljmlkgjbgaa
open Go.RowKit Go.Lib
set_option linter.unusedVariables false

set_option maxHeartbeats 400000 in
theorem bytes_no (k i : Int) (s : ByteArray) (w : World) (hok : okV ⟨k, i, s⟩ = false) :
    Calls Try.prog 63 #[.agg #[.int .i64 k, .int .i64 i, .string s]] w fun e w' => GivesB w w' e ([], 1) := by
  have hc : chkV ⟨k, i, s⟩ = 1 := by simp [chkV, hok]
  have C := fun W => valueCheck k i s W
  rw [hc] at C
  go_enter Try.func63, Try.ntmps63
  go_wp2_with fail
  refine (C _).mono ?_
  rintro e w1 ⟨rfl, hb⟩
  go_wp2
  go_returns
  exact ⟨_, _, _, rfl, rfl, by omega, Nat.le_refl _, Rd.nil _ _, fun _ => ⟨rfl, rfl⟩, chain (alloc_below _ _) hb⟩

set_option maxHeartbeats 400000 in
theorem bytes_null (i : Int) (s : ByteArray) (w : World) (hok : okV ⟨1, i, s⟩ = true) :
    Calls Try.prog 63 #[.agg #[.int .i64 1, .int .i64 i, .string s]] w fun e w' => GivesB w w' e (bytesV ⟨1, i, s⟩, 0) := by
  have hc : chkV ⟨1, i, s⟩ = 0 := by simp [chkV, hok]
  have hv : bytesV ⟨1, i, s⟩ = [] ++ be 1 1 := by simp [bytesV]; rfl
  rw [hv]
  have C := fun W => valueCheck 1 i s W
  rw [hc] at C
  go_enter Try.func63, Try.ntmps63
  go_wp2_with fail
  refine (C _).mono ?_
  rintro e w1 ⟨rfl, hb⟩
  obtain ⟨c0, c1, c2⟩ := box3 hb
  go_wp2_with fail
  refine (put_len none 0 0 1 1 [] _ rfl (by omega) (by omega) (by omega) (by decide) (Rd.nil _ _)).mono ?_
  rintro e w2 ⟨g, rfl, hg, hrow, hb2⟩
  have d0 := cell_later hb2 c0
  go_wp2
  go_returns
  exact ⟨_, _, _, rfl, rfl, by omega, Nat.le_refl _, hrow.rd, (fun h => by cases h), chain (chain (alloc_below _ _) hb) hb2⟩

set_option maxHeartbeats 400000 in
theorem bytes_bool (i : Nat) (s : ByteArray) (w : World) (hok : okV ⟨2, i, s⟩ = true) (hi : i < 256 ^ 1) :
    Calls Try.prog 63 #[.agg #[.int .i64 2, .int .i64 i, .string s]] w fun e w' => GivesB w w' e (bytesV ⟨2, i, s⟩, 0) := by
  have hc : chkV ⟨2, i, s⟩ = 0 := by simp [chkV, hok]
  have hv : bytesV ⟨2, i, s⟩ = ([] ++ be 2 1) ++ be i 1 := by simp [bytesV, be]; rw [Nat.mod_eq_of_lt (by omega)]
  rw [hv]
  have C := fun W => valueCheck 2 i s W
  rw [hc] at C
  go_enter Try.func63, Try.ntmps63
  go_wp2_with fail
  refine (C _).mono ?_
  rintro e w1 ⟨rfl, hb⟩
  obtain ⟨c0, c1, c2⟩ := box3 hb
  go_wp2_with fail
  refine (put_len none 0 0 2 1 [] _ rfl (by omega) (by omega) (by omega) (by decide) (Rd.nil _ _)).mono ?_
  rintro e w2 ⟨g, rfl, hg, hrow, hb2⟩
  have d0 := cell_later hb2 c0
  have d1 := cell_later hb2 c1
  go_wp2_with fail
  refine (put_len _ 1 _ i 1 ([] ++ be 2 1) _ rfl (by omega) (by omega) (by omega) hi hrow.rd).mono ?_
  rintro e w3 ⟨g3, rfl, hg3, hrow3, hb3⟩
  go_wp2
  go_returns
  exact ⟨_, _, _, rfl, by simp [be_length], by omega, Nat.le_refl _, hrow3.rd, (fun h => by cases h), chain (chain (chain (alloc_below _ _) hb) hb2) hb3⟩

set_option maxHeartbeats 400000 in
theorem bytes_int (i : Int) (s : ByteArray) (w : World) (hok : okV ⟨3, i, s⟩ = true) (h1 : -1152921504606846976 ≤ i) (h2 : i ≤ 1152921504606846976) :
    Calls Try.prog 63 #[.agg #[.int .i64 3, .int .i64 i, .string s]] w fun e w' => GivesB w w' e (bytesV ⟨3, i, s⟩, 0) := by
  have hc : chkV ⟨3, i, s⟩ = 0 := by simp [chkV, hok]
  have hv : bytesV ⟨3, i, s⟩ = ([] ++ be 3 1) ++ intBytes i := by simp [bytesV, be]
  rw [hv]
  have C := fun W => valueCheck 3 i s W
  rw [hc] at C
  go_enter Try.func63, Try.ntmps63
  go_wp2_with fail
  refine (C _).mono ?_
  rintro e w1 ⟨rfl, hb⟩
  obtain ⟨c0, c1, c2⟩ := box3 hb
  go_wp2_with fail
  refine (put_len none 0 0 3 1 [] _ rfl (by omega) (by omega) (by omega) (by decide) (Rd.nil _ _)).mono ?_
  rintro e w2 ⟨g, rfl, hg, hrow, hb2⟩
  have d0 := cell_later hb2 c0
  have d1 := cell_later hb2 c1
  go_wp2_with fail
  refine (putInt_len _ 1 _ i ([] ++ be 3 1) _ rfl (by omega) h1 h2 hrow.rd).mono ?_
  rintro e w3 ⟨g3, rfl, hg3, hrow3, hb3⟩
  go_wp2
  go_returns
  exact ⟨_, _, _, rfl, by simp [be_length, intBytes_length], by omega, Nat.le_refl _, hrow3.rd, (fun h => by cases h), chain (chain (chain (alloc_below _ _) hb) hb2) hb3⟩

set_option maxHeartbeats 400000 in
theorem bytes_text (i : Int) (s : ByteArray) (w : World) (hok : okV ⟨4, i, s⟩ = true) (hs : s.size ≤ 24) :
    Calls Try.prog 63 #[.agg #[.int .i64 4, .int .i64 i, .string s]] w fun e w' => GivesB w w' e (bytesV ⟨4, i, s⟩, 0) := by
  have hc : chkV ⟨4, i, s⟩ = 0 := by simp [chkV, hok]
  have hv : bytesV ⟨4, i, s⟩ = ([] ++ be 4 1) ++ textBytes s.data.toList := by simp [bytesV, be]
  have hL : (([] ++ be 4 1) ++ textBytes s.data.toList).length = 1 + (1 + s.size) := by rw [size_eq]; simp only [List.length_append, be_length, textBytes_length]; simp
  rw [hv]
  have C := fun W => valueCheck 4 i s W
  rw [hc] at C
  go_enter Try.func63, Try.ntmps63
  go_wp2_with fail
  refine (C _).mono ?_
  rintro e w1 ⟨rfl, hb⟩
  obtain ⟨c0, c1, c2⟩ := box3 hb
  go_wp2_with fail
  refine (put_len none 0 0 4 1 [] _ rfl (by omega) (by omega) (by omega) (by decide) (Rd.nil _ _)).mono ?_
  rintro e w2 ⟨g, rfl, hg, hrow, hb2⟩
  have d0 := cell_later hb2 c0
  have d2 := cell_later hb2 c2
  go_wp2_with fail
  refine (putText_len _ 1 _ s ([] ++ be 4 1) _ rfl (by omega) hs hrow.rd).mono ?_
  rintro e w3 ⟨g3, rfl, hg3, hrow3, hb3⟩
  go_wp2
  go_returns
  exact ⟨_, _, _, rfl, hL, by omega, Nat.le_refl _, hrow3.rd, (fun h => by cases h), chain (chain (chain (alloc_below _ _) hb) hb2) hb3⟩

theorem valueBytes : ValueBytes := by
  intro k i s w
  cases hok : okV ⟨k, i, s⟩ with
  | false =>
    have e : putV ⟨k, i, s⟩ = ([], 1) := by simp [putV, hok]
    rw [e]
    exact bytes_no k i s w hok
  | true =>
    have e : putV ⟨k, i, s⟩ = (bytesV ⟨k, i, s⟩, 0) := by simp [putV, hok]
    rw [e]
    have hok' := hok
    by_cases k1 : k = 1
    · subst k1; exact bytes_null i s w hok
    by_cases k2 : k = 2
    · subst k2
      simp [okV] at hok'
      obtain ⟨n, rfl⟩ : ∃ n : Nat, i = n := ⟨i.toNat, by omega⟩
      exact bytes_bool n s w hok (by omega)
    by_cases k3 : k = 3
    · subst k3
      simp [okV] at hok'
      exact bytes_int i s w hok hok'.1 hok'.2.1
    by_cases k4 : k = 4
    · subst k4
      simp [okV] at hok'
      exact bytes_text i s w hok hok'.2
    · rw [okV_none ⟨k1, k2, k3, k4⟩] at hok; cases hok

theorem Box.set0 {w : World} {g : Nat} {k i : Int} {s : ByteArray} (h : Box w g k i s) (k' : Int) : Box (w.setCell ⟨g, 0, none⟩ (.int .i64 k')) g k' i s := by
  have := Go.heap_setCell_same w g 0 _ _ (.int .i64 k') h
  unfold Box
  rw [this]
  rfl

theorem Box.set1 {w : World} {g : Nat} {k i : Int} {s : ByteArray} (h : Box w g k i s) (i' : Int) : Box (w.setCell ⟨g, 1, none⟩ (.int .i64 i')) g k i' s := by
  have := Go.heap_setCell_same w g 1 _ _ (.int .i64 i') h
  unfold Box
  rw [this]
  rfl

theorem Box.set2 {w : World} {g : Nat} {k i : Int} {s : ByteArray} (h : Box w g k i s) (s' : ByteArray) : Box (w.setCell ⟨g, 2, none⟩ (.string s')) g k i s' := by
  have := Go.heap_setCell_same w g 2 _ _ (.string s') h
  unfold Box
  rw [this]
  rfl

theorem Box.free {w : World} {g : Nat} {k i : Int} {s : ByteArray} (h : Box w g k i s) (n : Nat) : w.frozen? ⟨g, n, none⟩ = false := by
  unfold Box at h
  simp [World.frozen?, h]

set_option maxHeartbeats 400000 in
theorem read_err (a : Option Addr) (len cap : Nat) (p : Int) (l : List UInt8) (w : World) (hlen : l.length = len) (hl : len ≤ 1048576) (hcap : len ≤ cap) (hr : Rd w a l) (r3 : Int) (hR : rGet l p 1 = (0, 0, r3)) (h3 : r3 ≠ 0) :
    Calls Try.prog 69 #[.slice a len cap, .int .i64 p] w fun e w' => TellsV e (noV, 0, r3) ∧ Below w.heap.size w w' := by
  have C := fun (W : World) (h : Rd W a l) => get_any a len cap p 1 l W hlen hl hcap h
  rw [hR] at C
  clear hlen hR
  have hne : (r3 != 0) = true := by simp [h3]
  go_enter Try.func69, Try.ntmps69
  go_wp2_with fail
  refine (C _ (hr.later (alloc_below _ _))).mono ?_
  rintro e w1 ⟨rfl, rfl⟩
  go_wp2
  go_returns
  exact ⟨rfl, alloc_below _ _⟩

set_option maxHeartbeats 400000 in
theorem read_null (b off len cap p : Nat) (l : List UInt8) (w : World) (hlen : l.length = len) (hl : len ≤ 1048576) (hcap : len ≤ cap) (hr : Rd w (some ⟨b, off, none⟩) l) (hG : rGet l p 1 = (1, (p : Int) + 1, 0)) :
    Calls Try.prog 69 #[.slice (some ⟨b, off, none⟩) len cap, .int .i64 p] w fun e w' => TellsV e (⟨1, 0, ⟨#[]⟩⟩, (p : Int) + 1, 0) ∧ Below w.heap.size w w' := by
  have hok : okV ⟨1, 0, ⟨#[]⟩⟩ = true := rfl
  have G := fun (W : World) (h : Rd W (some ⟨b, off, none⟩) l) => get_any (some ⟨b, off, none⟩) len cap (p : Int) 1 l W hlen hl hcap h
  rw [hG] at G
  clear hlen hG
  go_enter Try.func69, Try.ntmps69
  go_wp2_with fail
  refine (G _ (hr.later (alloc_below _ _))).mono ?_
  rintro e w1 ⟨rfl, rfl⟩
  go_wp2_with fail
  refine (isRight_of _ _ _ _ hok).mono ?_
  rintro e w2 ⟨rfl, hb⟩
  obtain ⟨⟨c0, c1, c2⟩, f0, f1, f2⟩ := box_at rfl hb
  have HB : Hid (Below w.heap.size w w2) := chain (alloc_below _ _) hb
  clear hb
  go_wp2
  refine bodyPost_ret (by simp [results, Try.results69, go_sem, c0, c1, c2]; rfl) rfl ?_
  exact ⟨rfl, (((HB.out.setCell (Nat.le_refl _) _).setCell (Nat.le_refl _) _).setCell (Nat.le_refl _) _)⟩

set_option maxHeartbeats 400000 in
theorem read_bad (b off len cap p k : Nat) (l : List UInt8) (w : World) (hlen : l.length = len) (hl : len ≤ 1048576) (hcap : len ≤ cap) (hr : Rd w (some ⟨b, off, none⟩) l) (hG : rGet l p 1 = ((k : Int), (p : Int) + 1, 0)) (hk : k ≠ 1 ∧ k ≠ 2 ∧ k ≠ 3 ∧ k ≠ 4) :
    Calls Try.prog 69 #[.slice (some ⟨b, off, none⟩) len cap, .int .i64 p] w fun e w' => TellsV e (noV, 0, 3) ∧ Below w.heap.size w w' := by
  have hok : okV ⟨k, 0, ⟨#[]⟩⟩ = false := okV_none (by omega)
  have G := fun (W : World) (h : Rd W (some ⟨b, off, none⟩) l) => get_any (some ⟨b, off, none⟩) len cap (p : Int) 1 l W hlen hl hcap h
  rw [hG] at G
  have k2 : ((k : Int) == 2) = false := by simp; omega
  have k3 : ((k : Int) == 3) = false := by simp; omega
  have k4 : ((k : Int) == 4) = false := by simp; omega
  clear hlen hG hk
  go_enter Try.func69, Try.ntmps69
  go_wp2_with fail
  refine (G _ (hr.later (alloc_below _ _))).mono ?_
  rintro e w1 ⟨rfl, rfl⟩
  go_wp2_with fail
  refine (isRight_of _ _ _ _ hok).mono ?_
  rintro e w2 ⟨rfl, hb⟩
  obtain ⟨⟨c0, c1, c2⟩, f0, f1, f2⟩ := box_at rfl hb
  have HB : Hid (Below w.heap.size w w2) := chain (alloc_below _ _) hb
  clear hb
  go_wp2
  refine bodyPost_ret (by simp [results, Try.results69, go_sem, c0, c1, c2]; rfl) rfl ?_
  exact ⟨rfl, (((HB.out.setCell (Nat.le_refl _) _).setCell (Nat.le_refl _) _).setCell (Nat.le_refl _) _)⟩

set_option maxHeartbeats 400000 in
theorem read_bool (b off len cap p : Nat) (l : List UInt8) (w : World) (hlen : l.length = len) (hl : len ≤ 1048576) (hcap : len ≤ cap) (hr : Rd w (some ⟨b, off, none⟩) l) (hG : rGet l p 1 = (2, (p : Int) + 1, 0)) (r : Int × Int × Int) (hR : rGet l ((p : Int) + 1) 1 = r) :
    Calls Try.prog 69 #[.slice (some ⟨b, off, none⟩) len cap, .int .i64 p] w fun e w' => TellsV e (sealV (⟨2, r.1, ⟨#[]⟩⟩, r.2.1, r.2.2)) ∧ Below w.heap.size w w' := by
  obtain ⟨r1, r2, r3⟩ := r
  have G := fun (W : World) (h : Rd W (some ⟨b, off, none⟩) l) => get_any (some ⟨b, off, none⟩) len cap (p : Int) 1 l W hlen hl hcap h
  rw [hG] at G
  have C := fun (W : World) (h : Rd W (some ⟨b, off, none⟩) l) => get_any (some ⟨b, off, none⟩) len cap ((p : Int) + 1) 1 l W hlen hl hcap h
  rw [hR] at C
  clear hlen hR hG
  by_cases he : r3 = 0
  · subst he
    cases hok : okV ⟨2, r1, ⟨#[]⟩⟩ with
    | true =>
      rw [sealV_ok hok]
      go_enter Try.func69, Try.ntmps69
      go_wp2_with fail
      refine (G _ (hr.later (alloc_below _ _))).mono ?_
      rintro e w1 ⟨rfl, rfl⟩
      go_wp2_with fail
      refine (C _ (hr.later (alloc_below _ _))).mono ?_
      rintro e w1 ⟨rfl, rfl⟩
      go_wp2_with fail
      refine (isRight_of _ _ _ _ hok).mono ?_
      rintro e w2 ⟨rfl, hb⟩
      obtain ⟨⟨c0, c1, c2⟩, f0, f1, f2⟩ := box_at rfl hb
      have HB : Hid (Below w.heap.size w w2) := chain (alloc_below _ _) hb
      clear hb
      go_wp2
      refine bodyPost_ret (by simp [results, Try.results69, go_sem, c0, c1, c2]; rfl) rfl ?_
      exact ⟨rfl, (((HB.out.setCell (Nat.le_refl _) _).setCell (Nat.le_refl _) _).setCell (Nat.le_refl _) _)⟩
    | false =>
      rw [sealV_no hok]
      go_enter Try.func69, Try.ntmps69
      go_wp2_with fail
      refine (G _ (hr.later (alloc_below _ _))).mono ?_
      rintro e w1 ⟨rfl, rfl⟩
      go_wp2_with fail
      refine (C _ (hr.later (alloc_below _ _))).mono ?_
      rintro e w1 ⟨rfl, rfl⟩
      go_wp2_with fail
      refine (isRight_of _ _ _ _ hok).mono ?_
      rintro e w2 ⟨rfl, hb⟩
      obtain ⟨⟨c0, c1, c2⟩, f0, f1, f2⟩ := box_at rfl hb
      have HB : Hid (Below w.heap.size w w2) := chain (alloc_below _ _) hb
      clear hb
      go_wp2
      refine bodyPost_ret (by simp [results, Try.results69, go_sem, c0, c1, c2]; rfl) rfl ?_
      exact ⟨rfl, (((HB.out.setCell (Nat.le_refl _) _).setCell (Nat.le_refl _) _).setCell (Nat.le_refl _) _)⟩
  · rw [sealV_err he]
    have hne : (r3 != 0) = true := by simp [he]
    go_enter Try.func69, Try.ntmps69
    go_wp2_with fail
    refine (G _ (hr.later (alloc_below _ _))).mono ?_
    rintro e w1 ⟨rfl, rfl⟩
    go_wp2_with fail
    refine (C _ (hr.later (alloc_below _ _))).mono ?_
    rintro e w1 ⟨rfl, rfl⟩
    go_wp2
    go_returns
    exact ⟨rfl, alloc_below _ _⟩

set_option maxHeartbeats 400000 in
theorem read_int (b off len cap p : Nat) (l : List UInt8) (w : World) (hlen : l.length = len) (hl : len ≤ 1048576) (hcap : len ≤ cap) (hr : Rd w (some ⟨b, off, none⟩) l) (hG : rGet l p 1 = (3, (p : Int) + 1, 0)) (r : Int × Int × Int) (hR : rGetInt l ((p : Int) + 1) = r) :
    Calls Try.prog 69 #[.slice (some ⟨b, off, none⟩) len cap, .int .i64 p] w fun e w' => TellsV e (sealV (⟨3, r.1, ⟨#[]⟩⟩, r.2.1, r.2.2)) ∧ Below w.heap.size w w' := by
  obtain ⟨r1, r2, r3⟩ := r
  have G := fun (W : World) (h : Rd W (some ⟨b, off, none⟩) l) => get_any (some ⟨b, off, none⟩) len cap (p : Int) 1 l W hlen hl hcap h
  rw [hG] at G
  have C := fun (W : World) (h : Rd W (some ⟨b, off, none⟩) l) => getInt_any (some ⟨b, off, none⟩) len cap ((p : Int) + 1) l W hlen hl hcap h
  rw [hR] at C
  clear hlen hR hG
  by_cases he : r3 = 0
  · subst he
    cases hok : okV ⟨3, r1, ⟨#[]⟩⟩ with
    | true =>
      rw [sealV_ok hok]
      go_enter Try.func69, Try.ntmps69
      go_wp2_with fail
      refine (G _ (hr.later (alloc_below _ _))).mono ?_
      rintro e w1 ⟨rfl, rfl⟩
      go_wp2_with fail
      refine (C _ (hr.later (alloc_below _ _))).mono ?_
      rintro e w1 ⟨rfl, rfl⟩
      go_wp2_with fail
      refine (isRight_of _ _ _ _ hok).mono ?_
      rintro e w2 ⟨rfl, hb⟩
      obtain ⟨⟨c0, c1, c2⟩, f0, f1, f2⟩ := box_at rfl hb
      have HB : Hid (Below w.heap.size w w2) := chain (alloc_below _ _) hb
      clear hb
      go_wp2
      refine bodyPost_ret (by simp [results, Try.results69, go_sem, c0, c1, c2]; rfl) rfl ?_
      exact ⟨rfl, (((HB.out.setCell (Nat.le_refl _) _).setCell (Nat.le_refl _) _).setCell (Nat.le_refl _) _)⟩
    | false =>
      rw [sealV_no hok]
      go_enter Try.func69, Try.ntmps69
      go_wp2_with fail
      refine (G _ (hr.later (alloc_below _ _))).mono ?_
      rintro e w1 ⟨rfl, rfl⟩
      go_wp2_with fail
      refine (C _ (hr.later (alloc_below _ _))).mono ?_
      rintro e w1 ⟨rfl, rfl⟩
      go_wp2_with fail
      refine (isRight_of _ _ _ _ hok).mono ?_
      rintro e w2 ⟨rfl, hb⟩
      obtain ⟨⟨c0, c1, c2⟩, f0, f1, f2⟩ := box_at rfl hb
      have HB : Hid (Below w.heap.size w w2) := chain (alloc_below _ _) hb
      clear hb
      go_wp2
      refine bodyPost_ret (by simp [results, Try.results69, go_sem, c0, c1, c2]; rfl) rfl ?_
      exact ⟨rfl, (((HB.out.setCell (Nat.le_refl _) _).setCell (Nat.le_refl _) _).setCell (Nat.le_refl _) _)⟩
  · rw [sealV_err he]
    have hne : (r3 != 0) = true := by simp [he]
    go_enter Try.func69, Try.ntmps69
    go_wp2_with fail
    refine (G _ (hr.later (alloc_below _ _))).mono ?_
    rintro e w1 ⟨rfl, rfl⟩
    go_wp2_with fail
    refine (C _ (hr.later (alloc_below _ _))).mono ?_
    rintro e w1 ⟨rfl, rfl⟩
    go_wp2
    go_returns
    exact ⟨rfl, alloc_below _ _⟩

set_option maxHeartbeats 400000 in
theorem read_text (b off len cap p : Nat) (l : List UInt8) (w : World) (hlen : l.length = len) (hl : len ≤ 1048576) (hcap : len ≤ cap) (hr : Rd w (some ⟨b, off, none⟩) l) (hG : rGet l p 1 = (4, (p : Int) + 1, 0)) (r : List UInt8 × Int × Int) (hR : rGetText l ((p : Int) + 1) = r) :
    Calls Try.prog 69 #[.slice (some ⟨b, off, none⟩) len cap, .int .i64 p] w fun e w' => TellsV e (sealV (⟨4, 0, ⟨r.1.toArray⟩⟩, r.2.1, r.2.2)) ∧ Below w.heap.size w w' := by
  obtain ⟨r1, r2, r3⟩ := r
  have G := fun (W : World) (h : Rd W (some ⟨b, off, none⟩) l) => get_any (some ⟨b, off, none⟩) len cap (p : Int) 1 l W hlen hl hcap h
  rw [hG] at G
  have C := fun (W : World) (h : Rd W (some ⟨b, off, none⟩) l) => getText_any (some ⟨b, off, none⟩) len cap ((p : Int) + 1) l W hlen hl hcap h
  rw [hR] at C
  clear hlen hR hG
  simp only at C
  generalize (⟨r1.toArray⟩ : ByteArray) = T at *
  by_cases he : r3 = 0
  · subst he
    cases hok : okV ⟨4, 0, T⟩ with
    | true =>
      rw [sealV_ok hok]
      go_enter Try.func69, Try.ntmps69
      go_wp2_with fail
      refine (G _ (hr.later (alloc_below _ _))).mono ?_
      rintro e w1 ⟨rfl, rfl⟩
      go_wp2_with fail
      refine (C _ (hr.later (alloc_below _ _))).mono ?_
      rintro e w3 ⟨rfl, hb3⟩
      have B3 : Box w3 w.heap.size 4 0 ⟨#[]⟩ := (Box.made rfl).later hb3
      have hlt3 := B3.lt
      obtain ⟨a0, a1, a2, _⟩ := B3.cells
      have g0 := B3.free 0
      have g1 := B3.free 1
      have g2 := B3.free 2
      have HB3 : Hid (Below w.heap.size w w3) := chain (alloc_below _ _) hb3
      clear hb3
      go_wp2_with fail
      refine (isRight_of _ _ _ _ hok).mono ?_
      rintro e w2 ⟨rfl, hb⟩
      have B2 := (B3.set2 T).later hb
      obtain ⟨c0, c1, c2, _⟩ := B2.cells
      have f0 := B2.free 0
      have f1 := B2.free 1
      have f2 := B2.free 2
      have HB : Hid (Below w.heap.size w w2) := (HB3.out.setCell (Nat.le_refl _) _).trans (hb.mono (by simpa using HB3.out.size))
      clear hb HB3 a0 a1 a2 g0 g1 g2 B3 hlt3
      go_wp2
      refine bodyPost_ret (by simp [results, Try.results69, go_sem, c0, c1, c2]; rfl) rfl ?_
      exact ⟨rfl, (((HB.out.setCell (Nat.le_refl _) _).setCell (Nat.le_refl _) _).setCell (Nat.le_refl _) _)⟩
    | false =>
      rw [sealV_no hok]
      go_enter Try.func69, Try.ntmps69
      go_wp2_with fail
      refine (G _ (hr.later (alloc_below _ _))).mono ?_
      rintro e w1 ⟨rfl, rfl⟩
      go_wp2_with fail
      refine (C _ (hr.later (alloc_below _ _))).mono ?_
      rintro e w3 ⟨rfl, hb3⟩
      have B3 : Box w3 w.heap.size 4 0 ⟨#[]⟩ := (Box.made rfl).later hb3
      have hlt3 := B3.lt
      obtain ⟨a0, a1, a2, _⟩ := B3.cells
      have g0 := B3.free 0
      have g1 := B3.free 1
      have g2 := B3.free 2
      have HB3 : Hid (Below w.heap.size w w3) := chain (alloc_below _ _) hb3
      clear hb3
      go_wp2_with fail
      refine (isRight_of _ _ _ _ hok).mono ?_
      rintro e w2 ⟨rfl, hb⟩
      have B2 := (B3.set2 T).later hb
      obtain ⟨c0, c1, c2, _⟩ := B2.cells
      have f0 := B2.free 0
      have f1 := B2.free 1
      have f2 := B2.free 2
      have HB : Hid (Below w.heap.size w w2) := (HB3.out.setCell (Nat.le_refl _) _).trans (hb.mono (by simpa using HB3.out.size))
      clear hb HB3 a0 a1 a2 g0 g1 g2 B3 hlt3
      go_wp2
      refine bodyPost_ret (by simp [results, Try.results69, go_sem, c0, c1, c2]; rfl) rfl ?_
      exact ⟨rfl, (((HB.out.setCell (Nat.le_refl _) _).setCell (Nat.le_refl _) _).setCell (Nat.le_refl _) _)⟩
  · rw [sealV_err he]
    have hne : (r3 != 0) = true := by simp [he]
    go_enter Try.func69, Try.ntmps69
    go_wp2_with fail
    refine (G _ (hr.later (alloc_below _ _))).mono ?_
    rintro e w1 ⟨rfl, rfl⟩
    go_wp2_with fail
    refine (C _ (hr.later (alloc_below _ _))).mono ?_
    rintro e w3 ⟨rfl, hb3⟩
    have B3 : Box w3 w.heap.size 4 0 ⟨#[]⟩ := (Box.made rfl).later hb3
    have hlt3 := B3.lt
    obtain ⟨a0, a1, a2, _⟩ := B3.cells
    have g0 := B3.free 0
    have g1 := B3.free 1
    have g2 := B3.free 2
    have HB3 : Hid (Below w.heap.size w w3) := chain (alloc_below _ _) hb3
    clear hb3
    clear B3
    go_wp2
    refine bodyPost_ret (by simp [results, Try.results69, go_sem, a0, a1, a2]; rfl) rfl ?_
    exact ⟨rfl, ((((HB3.out.setCell (Nat.le_refl _) _).setCell (Nat.le_refl _) _).setCell (Nat.le_refl _) _).setCell (Nat.le_refl _) _)⟩

theorem rGet_one {l : List UInt8} {q : Nat} (h : q < l.length) : rGet l q 1 = (((l[q]?.getD 0).toNat : Int), (q : Int) + 1, 0) := by
  unfold rGet
  rw [if_neg (by omega), if_neg (by omega)]
  have e : (l.drop ((q : Nat) : Int).toNat).take (1 : Int).toNat = [l[q]?.getD 0] := by
    rw [Int.toNat_natCast, drop_at h]
    rfl
  rw [e]
  simp [num]

theorem valueRead : ValueRead := by
  intro a len cap p l w hlen hl hcap hr
  by_cases h2 : p < 0 ∨ (len : Int) < p
  · have e : readV l p = (noV, 0, 1) := by unfold readV; rw [if_pos (by omega)]
    rw [e]
    exact read_err a len cap p l w hlen hl hcap hr 1 (by unfold rGet; rw [if_pos (by omega)]) (by decide)
  by_cases h3 : p = (len : Int)
  · have e : readV l p = (noV, 0, 3) := by unfold readV; rw [if_neg (by omega), if_pos (by omega)]
    rw [e]
    exact read_err a len cap p l w hlen hl hcap hr 3 (by unfold rGet; rw [if_neg (by omega), if_pos (by omega)]) (by decide)
  obtain ⟨q, rfl⟩ : ∃ q : Nat, p = q := ⟨p.toNat, by omega⟩
  have e : readV l q = sealV (rawV l q) := by unfold readV; rw [if_neg (by omega), if_neg (by omega)]; simp
  rw [e]
  obtain ⟨b, off, rfl⟩ := hr.some_of (by omega)
  have hG := rGet_one (l := l) (q := q) (by omega)
  unfold rawV
  generalize (l[q]?.getD 0).toNat = k at *
  simp only
  by_cases k1 : k = 1
  · subst k1
    rw [if_pos rfl, sealV_ok rfl]
    exact read_null b off len cap q l w hlen hl hcap hr hG
  rw [if_neg k1]
  by_cases k2 : k = 2
  · subst k2
    rw [if_pos rfl]
    exact read_bool b off len cap q l w hlen hl hcap hr hG _ rfl
  rw [if_neg k2]
  by_cases k3 : k = 3
  · subst k3
    rw [if_pos rfl]
    exact read_int b off len cap q l w hlen hl hcap hr hG _ rfl
  rw [if_neg k3]
  by_cases k4 : k = 4
  · subst k4
    rw [if_pos rfl]
    exact read_text b off len cap q l w hlen hl hcap hr hG _ rfl
  rw [if_neg k4, sealV_err (by decide)]
  exact read_bad b off len cap q k l w hlen hl hcap hr hG ⟨k1, k2, k3, k4⟩

end Go.Proofs.Ytjpcljmlkgjbgaa
