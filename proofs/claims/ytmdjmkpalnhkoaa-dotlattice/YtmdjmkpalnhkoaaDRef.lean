/-
  What the document's own Vector, Has, Next, Le, LessDot, Merge do; raddlekeep's Dot, SpoilInts.
-/
import Derived.Test.YtmdjmkpalnhkoaaRows
import Derived.Test.YtmdjmkpalnhkoaaDMem
import Derived.Test.YtmdjmkpalnhkoaaRef
import Derived.Deep.RegionHeld3
import Derived.Deep.RegionLaw
import Derived.Deep.QuietTactic
import Derived.BigQuiet
namespace Go.Proofs.Ytmdjmkpalnhkoaa
open Go.RowKit Go.Lib
set_option linter.unusedVariables false

set_option maxHeartbeats 400000 in
theorem rVector_len (a : Option Addr) (n cap : Nat) (w : World) (h : n < 1 ∨ 5 < n) (hb : n ≤ 9223372036854775807) :
    Calls Try.prog 11 #[.slice a n cap] w fun e w' => e = .returned (.int .i64 2) ∧ w' = w := by
  go_enter Try.func11, Try.ntmps11
  go_wp2_with fail
  refine (in_no _ _ _ _ (by omega)).mono ?_
  rintro e w1 ⟨rfl, rfl⟩
  go_wp2
  go_ret
  exact ⟨rfl, rfl⟩

theorem right_step {N : List Int} {k : Nat} (hk : k < N.length) (h : rightD (N.take k) = true) : rightD (N.take (k + 1)) = decide (0 ≤ N[k] ∧ N[k] ≤ 1073741824) := by
  unfold rightD at h ⊢
  rw [List.take_succ_eq_append_getElem hk, List.all_append, h]
  simp

theorem right_no {N : List Int} {k : Nat} (hk : k < N.length) (h : ¬ (0 ≤ N[k] ∧ N[k] ≤ 1073741824)) : rightD N = false := by
  unfold rightD
  rw [List.all_eq_false]
  exact ⟨_, List.getElem_mem hk, by simpa using h⟩

set_option maxHeartbeats 400000 in
theorem rVector_few (a : Option Addr) (n cap : Nat) (N : List Int) (w : World) (hn : N.length = n) (h1 : 1 ≤ n) (h5 : n ≤ 5) (hr : RdI .i64 w a N) :
    Calls Try.prog 11 #[.slice a n cap] w fun e w' => e = .returned (.int .i64 (errD N)) ∧ w' = w := by
  have HN : Hid (N.length = n) := hn
  clear hn
  go_enter Try.func11, Try.ntmps11
  go_wp2_with fail
  refine (in_yes _ _ _ _ (by omega) (by omega)).mono ?_
  rintro e w1 ⟨rfl, hw1⟩
  subst w1
  go_wp2
  go_loop [3] (fun i => ∃ k : Nat, k ≤ n ∧ i = .int .i64 k ∧ Hid (rightD (N.take k) = true)) (fun i => n - (RowKit.intOf i).toNat)
  case atStart => exact ⟨0, Nat.zero_le _, rfl, rfl⟩
  case round =>
    obtain ⟨k, hk, rfl, hT⟩ := hrel
    by_cases hlt : k < n
    · have hkl : k < N.length := by rw [HN.out]; exact hlt
      obtain ⟨b, off, rfl, hc⟩ := hr (by omega)
      have x0 := hc k hkl
      have HS : Hid _ := right_step hkl hT.out
      have HX : Hid _ := fun h => right_no hkl h
      clear hc hr
      generalize N[k] = x at *
      by_cases hx : 0 ≤ x ∧ x ≤ 1073741824
      · have HT' : Hid (rightD (N.take (k + 1)) = true) := by rw [HS.out]; show _ = _; simpa using hx
        go_wp2_with fail
        refine (in_yes _ _ _ _ hx.1 hx.2).mono ?_
        rintro e w1 ⟨rfl, rfl⟩
        go_wp2
        go_round
        case rel => exact ⟨k + 1, by omega, by go_num, HT'⟩
        case measure => simp [RowKit.intOf]; omega
      · have HT' : Hid (rightD N = false) := HX.out hx
        go_wp2_with fail
        refine (in_no _ _ _ _ (by omega)).mono ?_
        rintro e w1 ⟨rfl, rfl⟩
        go_wp2
        go_ret
        exact ⟨by rw [errD_no HT'.out]; rfl, rfl⟩
    · have h2 := hT.out
      rw [List.take_of_length_le (by rw [HN.out]; omega)] at h2
      have HH : Hid (rightD N = true) := h2
      clear h2
      go_wp2
      go_ret
      exact ⟨by rw [errD_ok HH.out]; rfl, rfl⟩

theorem rVector_any (a : Option Addr) (n cap : Nat) (N : List Int) (w : World) (hn : N.length = n) (h : n ≤ 9223372036854775807) (hr : RdI .i64 w a N) :
    Calls Try.prog 11 #[.slice a n cap] w fun e w' => e = .returned (.int .i64 (chkD N)) ∧ w' = w := by
  unfold chkD
  by_cases h5 : n < 1 ∨ 5 < n
  · rw [if_pos (by omega)]
    exact rVector_len a n cap w h5 h
  · rw [if_neg (by omega)]
    exact rVector_few a n cap N w hn (by omega) (by omega) hr

/-- A dot's two numbers, in a box. -/
theorem below_box (w : World) (o : Obj) (n : Nat) : Below w.heap.size w ((w.alloc o).drewN n) := below_drewN (alloc_below _ _) n

set_option maxHeartbeats 1000000 in
theorem rHas_any (a : Option Addr) (n cap : Nat) (p k : Int) (N : List Int) (w : World) (hn : N.length = n) (hl : n ≤ 65536) (hr : RdI .i64 w a N) :
    Calls Try.prog 14 #[.slice a n cap, .agg #[.int .i64 p, .int .i64 k]] w fun e w' => e = .returned (.bool (hasD N p k)) ∧ Below w.heap.size w w' := by
  cases hp : placeD N p with
  | false =>
    have e : hasD N p k = false := by simp [hasD, hp]
    rw [e]
    unfold placeD at hp
    rw [hn] at hp
    have hp' : ¬ (0 ≤ p ∧ p ≤ (n : Int) - 1) := by simpa using hp
    clear hp hn
    go_enter Try.func14, Try.ntmps14
    go_wp2
    go_quiet ((go_at_call 31; exact Calls.quiet_of_same (in_no _ _ _ _ (by omega))))
    go_wp2
    go_ret
    exact ⟨rfl, below_box _ _ _⟩
  | true =>
    obtain ⟨q, hq, rfl, hat⟩ := atD_at hp
    have e : hasD N (q : Int) k = (decide (1 ≤ k) && decide (k ≤ N[q])) := by simp [hasD, hp, hat]
    rw [e]
    obtain ⟨b, off, rfl, hc⟩ := hr (by omega)
    have x0 := cell_later (alloc_below w (.cells #[.int .i64 (q : Int), .int .i64 k] 24)) (hc q hq)
    have hqn : q < n := by omega
    clear hc hr hat hp e
    generalize N[q] = x at *
    clear hq hn
    have b1 : (0 : Int) ≤ (q : Int) := by omega
    have b2 : (q : Int) < (n : Int) := by omega
    by_cases hk : 1 ≤ k
    · rw [decide_eq_true hk, Bool.true_and]
      go_enter Try.func14, Try.ntmps14
      go_wp2
      go_quiet ((go_at_call 31; exact Calls.quiet_of_same (in_yes _ _ _ _ (by omega) (by omega))))
      go_wp2
      go_ret
      exact ⟨rfl, below_box _ _ _⟩
    · rw [decide_eq_false hk, Bool.false_and]
      have hkd : decide (1 ≤ k) = false := by simpa using hk
      go_enter Try.func14, Try.ntmps14
      go_wp2
      go_quiet ((go_at_call 31; exact Calls.quiet_of_same (in_yes _ _ _ _ (by omega) (by omega))))
      go_wp2
      go_ret
      exact ⟨rfl, below_box _ _ _⟩

set_option maxHeartbeats 1000000 in
theorem rNext_any (a : Option Addr) (n cap : Nat) (p k : Int) (N : List Int) (w : World) (hn : N.length = n) (hl : n ≤ 65536) (h64 : All64 N) (hk64 : In64 k) (hr : RdI .i64 w a N) :
    Calls Try.prog 16 #[.slice a n cap, .agg #[.int .i64 p, .int .i64 k]] w fun e w' => e = .returned (.bool (nextD N p k)) ∧ Below w.heap.size w w' := by
  cases hp : placeD N p with
  | false =>
    have e : nextD N p k = false := by simp [nextD, hp]
    rw [e]
    unfold placeD at hp
    rw [hn] at hp
    have hp' : ¬ (0 ≤ p ∧ p ≤ (n : Int) - 1) := by simpa using hp
    clear hp hn
    go_enter Try.func16, Try.ntmps16
    go_wp2
    go_quiet ((go_at_call 31; exact Calls.quiet_of_same (in_no _ _ _ _ (by omega))))
    go_wp2
    go_ret
    exact ⟨rfl, below_box _ _ _⟩
  | true =>
    obtain ⟨q, hq, rfl, hat⟩ := atD_at hp
    have e : nextD N (q : Int) k = decide (k = N[q] + 1) := by simp [nextD, hp, hat]
    rw [e]
    obtain ⟨b, off, rfl, hc⟩ := hr (by omega)
    have x0 := cell_later (alloc_below w (.cells #[.int .i64 (q : Int), .int .i64 k] 24)) (hc q hq)
    have hx64 := h64 _ (List.getElem_mem hq)
    have hqn : q < n := by omega
    clear hc hr hat hp e h64
    generalize N[q] = x at *
    clear hq hn
    unfold In64 at hx64 hk64
    have b1 : (0 : Int) ≤ (q : Int) := by omega
    have b2 : (q : Int) < (n : Int) := by omega
    by_cases hk : x < k
    · have hs1 : -9223372036854775808 ≤ k - 1 := by omega
      have hs2 : k - 1 ≤ 9223372036854775807 := by omega
      have hq : decide (k = x + 1) = (k - 1 == x) := by rw [Bool.eq_iff_iff]; simp; omega
      rw [hq]
      go_enter Try.func16, Try.ntmps16
      go_wp2
      go_quiet ((go_at_call 31; exact Calls.quiet_of_same (in_yes _ _ _ _ (by omega) (by omega))))
      go_wp2
      go_ret
      exact ⟨rfl, below_box _ _ _⟩
    · rw [decide_eq_false (by omega)]
      have hkd : decide (x < k) = false := by simpa using hk
      go_enter Try.func16, Try.ntmps16
      go_wp2
      go_quiet ((go_at_call 31; exact Calls.quiet_of_same (in_yes _ _ _ _ (by omega) (by omega))))
      go_wp2
      go_ret
      exact ⟨rfl, below_box _ _ _⟩

theorem leD_step {A B : List Int} {k : Nat} (hl : k < A.length) (hr : k < B.length) : leD (A.drop k) (B.drop k) = (decide (A[k] ≤ B[k]) && leD (A.drop (k + 1)) (B.drop (k + 1))) := by
  rw [List.drop_eq_getElem_cons hl, List.drop_eq_getElem_cons hr, leD]

set_option maxHeartbeats 1000000 in
theorem rLe_any (a b : Option Addr) (n m cap dap : Nat) (A B : List Int) (w : World) (hn : A.length = n) (hm : B.length = m) (hl : n ≤ 65536) (hr : m ≤ 65536) (ha : RdI .i64 w a A) (hb : RdI .i64 w b B) :
    Calls Try.prog 18 #[.slice a n cap, .slice b m dap] w fun e w' => e = .returned (.bool (leD A B)) ∧ Below w.heap.size w w' := by
  by_cases hnm : n = m
  · subst hnm
    have HN : Hid (A.length = n) := hn
    have HM : Hid (B.length = n) := hm
    clear hn hm
    go_enter Try.func18, Try.ntmps18
    go_wp2
    go_loopw [5] (fun i wr => ∃ k : Nat, k ≤ n ∧ i = .int .i64 k ∧ Hid (leD A B = leD (A.drop k) (B.drop k)) ∧ Hid (Below w.heap.size w wr)) (fun i _ => n - (RowKit.intOf i).toNat)
    case atStart => exact ⟨0, Nat.zero_le _, rfl, rfl, Below.refl _ _⟩
    case round =>
      obtain ⟨k, hk, rfl, hT, hB⟩ := hrel
      by_cases hlt : k < n
      · have hkl : k < A.length := by rw [HN.out]; exact hlt
        have hkr : k < B.length := by rw [HM.out]; exact hlt
        obtain ⟨b1, o1, rfl, hc1⟩ := ha (by omega)
        obtain ⟨b2, o2, rfl, hc2⟩ := hb (by omega)
        have hx1 := cell_later hB.out (hc1 k hkl)
        have hx2 := cell_later hB.out (hc2 k hkr)
        have HQ : Hid (leD A B = (decide (A[k] ≤ B[k]) && leD (A.drop (k + 1)) (B.drop (k + 1)))) := by
          rw [← leD_step hkl hkr]; exact hT
        clear hc1 hc2 ha hb hT
        generalize A[k] = x at *
        generalize B[k] = y at *
        clear hkl hkr
        by_cases hq : x ≤ y
        · have HT' : Hid (leD A B = leD (A.drop (k + 1)) (B.drop (k + 1))) := by have := HQ.out; rwa [decide_eq_true hq, Bool.true_and] at this
          have hqd : decide (y < x) = false := by simp; omega
          clear HQ
          go_wp2
          go_quiet (fail)
          go_wp2
          go_roundw
          case rel => exact ⟨k + 1, by omega, by go_num, HT', below_drewN hB.out _⟩
          case measure => simp [RowKit.intOf]; omega
        · have HT' : Hid (leD A B = false) := by have := HQ.out; rwa [decide_eq_false hq, Bool.false_and] at this
          have hqd : decide (y < x) = true := by simp; omega
          clear HQ
          go_wp2
          go_quiet (fail)
          go_wp2
          go_ret
          exact ⟨by rw [HT'.out]; rfl, below_drewN hB.out _⟩
      · have HE : Hid (leD A B = true) := by
          have h1 := hT.out
          rw [List.drop_of_length_le (by rw [HN.out]; omega), List.drop_of_length_le (by rw [HM.out]; omega)] at h1
          exact h1
        go_wp2
        go_ret
        exact ⟨by rw [HE.out]; rfl, hB.out⟩
  · have HE : Hid (leD A B = false) := leD_len (by omega)
    have hbq : ((n : Int) != (m : Int)) = true := by simp; omega
    clear hn hm hnm
    go_enter Try.func18, Try.ntmps18
    go_wp2
    go_ret
    exact ⟨by rw [HE.out]; rfl, Below.refl _ _⟩

set_option maxHeartbeats 400000 in
theorem rLessDot_any (p k p' k' : Int) (w : World) :
    Calls Try.prog 20 #[.agg #[.int .i64 p, .int .i64 k], .agg #[.int .i64 p', .int .i64 k']] w fun e w' => e = .returned (.bool (lessD p k p' k')) ∧ Below w.heap.size w w' := by
  by_cases h1 : p < p'
  · have e : lessD p k p' k' = true := by simp [lessD, h1]
    rw [e]
    go_enter Try.func20, Try.ntmps20
    go_wp2
    go_ret
    exact ⟨rfl, below_two _ _ _⟩
  · by_cases h2 : p = p'
    · subst h2
      have e : lessD p k p k' = decide (k < k') := by simp [lessD]
      rw [e]
      go_enter Try.func20, Try.ntmps20
      go_wp2
      go_ret
      exact ⟨rfl, below_two _ _ _⟩
    · have e : lessD p k p' k' = false := by simp [lessD, h1, h2]
      rw [e]
      have h2' : (p == p') = false := by simp [h2]
      go_enter Try.func20, Try.ntmps20
      go_wp2
      go_ret
      exact ⟨rfl, below_two _ _ _⟩

set_option maxHeartbeats 400000 in
theorem keepDot_any (p k p' k' : Int) (w : World) :
    Calls Try.prog 30 #[.agg #[.int .i64 p, .int .i64 k], .agg #[.int .i64 p', .int .i64 k']] w fun e w' => e = .returned (.bool (decide (p = p') && decide (k = k'))) ∧ Below w.heap.size w w' := by
  by_cases h1 : p = p'
  · subst h1
    go_enter Try.func30, Try.ntmps30
    go_wp2
    go_ret
    exact ⟨by simp <;> rfl, below_two _ _ _⟩
  · go_enter Try.func30, Try.ntmps30
    go_wp2
    go_ret
    exact ⟨by simp [h1], below_two _ _ _⟩

/-- A row of so many numbers' cells, which may be written. -/
def IRow (w : World) (g m : Nat) : Prop := ∃ cs : Array Value, cs.size = m ∧ w.heap[g]? = some (.cells cs 3 (0, 0))

theorem IRow.cell {w : World} {g m i : Nat} (h : IRow w g m) (hi : i < m) : ∃ u, w.cell? ⟨g, i, none⟩ = some u ∧ w.frozen? ⟨g, i, none⟩ = false := by
  obtain ⟨cs, hs, hh⟩ := h
  refine ⟨cs[i]'(by omega), ?_, by simp [World.frozen?, hh]⟩
  rw [cell_of_row w g i _ _ _ hh]
  exact Array.getElem?_eq_getElem (by omega)

theorem IRow.set {w : World} {g m i : Nat} {u : Value} (h : IRow w g m) : IRow (w.setCell ⟨g, i, none⟩ u) g m := by
  obtain ⟨cs, hs, hh⟩ := h
  exact ⟨_, by simpa using hs, Go.heap_setCell_same w g i _ _ u hh⟩

set_option maxHeartbeats 1000000 in
theorem spoilInts_some (g n cap m : Nat) (w : World) (hn : n ≤ m) (h64 : n ≤ 65536) (hg : IRow w g m) :
    Calls Try.prog 25 #[.slice (some ⟨g, 0, none⟩) n cap] w fun e w' => e = .returned (.tuple #[]) ∧ Below g w w' := by
  go_enter Try.func25, Try.ntmps25
  go_wp2
  go_loopw [2] (fun i wr => ∃ k : Nat, k ≤ n ∧ i = .int .i64 k ∧ IRow wr g m ∧ Hid (Below g w wr)) (fun i _ => n - (RowKit.intOf i).toNat)
  case atStart => exact ⟨0, Nat.zero_le _, rfl, hg, Below.refl _ _⟩
  case round =>
    obtain ⟨k, hk, rfl, hV, hB⟩ := hrel
    by_cases hlt : k < n
    · obtain ⟨u0, c0, f0⟩ := hV.cell (i := k) (by omega)
      go_wp2
      go_roundw
      case rel => exact ⟨k + 1, by omega, by go_num, hV.set, hB.out.setCell (Nat.le_refl _) _⟩
      case measure => simp [RowKit.intOf]; omega
    · go_wp2
      go_end0
      exact ⟨rfl, hB.out⟩

set_option maxHeartbeats 400000 in
theorem spoilInts_none (a : Option Addr) (cap : Nat) (w : World) :
    Calls Try.prog 25 #[.slice a 0 cap] w fun e w' => e = .returned (.tuple #[]) ∧ w' = w := by
  go_enter Try.func25, Try.ntmps25
  go_wp2
  go_loop [2] (fun i => i = .int .i64 0) (fun i => 0)
  case atStart => rfl
  case round =>
    subst hrel
    go_wp2
    go_end0
    exact ⟨rfl, rfl⟩

theorem spoilInts_own (a : Option Addr) (n cap B : Nat) (N : List Int) (w : World) (hn : N.length = n) (h64 : n ≤ 65536) (ho : OwnI w B (.slice a n cap) N) :
    Calls Try.prog 25 #[.slice a n cap] w fun e w' => e = .returned (.tuple #[]) ∧ Below B w w' := by
  obtain ⟨_, ⟨hv, h0⟩ | ⟨g, c, cur, hv, hg, hh, hc, _, hs, ht⟩⟩ := ho
  · obtain rfl : n = 0 := by omega
    exact (spoilInts_none a cap w).mono fun e w' ⟨h1, h2⟩ => ⟨h1, by rw [h2]; exact Below.refl _ _⟩
  · simp only [Value.slice.injEq] at hv
    obtain ⟨rfl, _, rfl⟩ := hv
    exact (spoilInts_some g n cap (cap * 1) w (by omega) h64 ⟨cur, hs, hh⟩).mono fun e w' ⟨h1, h2⟩ => ⟨h1, h2.mono hg⟩

end Go.Proofs.Ytmdjmkpalnhkoaa
