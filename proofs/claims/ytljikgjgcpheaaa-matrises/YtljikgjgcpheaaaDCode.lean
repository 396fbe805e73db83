/-
  What the calls of package dot answer, of the landed code.
-/
import Derived.Test.YtljikgjgcpheaaaRows
import Derived.Test.YtljikgjgcpheaaaDLeast
namespace Go.Proofs.Ytljikgjgcpheaaa
open Go.RowKit Go.Lib
set_option linter.unusedVariables false

set_option maxHeartbeats 400000 in
theorem dCheck_len (a : Option Addr) (n cap : Nat) (w : World) (h : n < 1 ∨ 5 < n) (hb : n ≤ 65536) :
    Calls Try.prog 29 #[.slice a n cap] w fun e w' => e = .returned (.int .i64 2) ∧ w' = w := by
  rcases h with h | h
  · obtain rfl : n = 0 := by omega
    go_enter Try.func29, Try.ntmps29
    go_wp2
    go_ret
    exact ⟨rfl, rfl⟩
  · go_enter Try.func29, Try.ntmps29
    go_wp2
    go_ret
    exact ⟨rfl, rfl⟩

set_option maxHeartbeats 400000 in
theorem dCheck_few (a : Option Addr) (n cap : Nat) (N : List Int) (w : World) (hn : N.length = n) (h1 : 1 ≤ n) (h5 : n ≤ 5) (hr : RdI .i64 w a N) :
    Calls Try.prog 29 #[.slice a n cap] w fun e w' => e = .returned (.int .i64 (errD N)) ∧ w' = w := by
  have HN : Hid (N.length = n) := hn
  clear hn
  go_enter Try.func29, Try.ntmps29
  go_wp2
  go_loop [15] (fun i => ∃ k : Nat, k ≤ n ∧ i = .int .i64 k ∧ Hid (rightD (N.take k) = true)) (fun i => n - (RowKit.intOf i).toNat)
  case atStart => exact ⟨0, Nat.zero_le _, rfl, rfl⟩
  case round =>
    obtain ⟨k, hk, rfl, hT⟩ := hrel
    by_cases hlt : k < n
    · have hkl : k < N.length := by rw [HN.out]; exact hlt
      obtain ⟨b, off, rfl, hc⟩ := hr (by omega)
      have x0 := hc k hkl
      have HS : Hid _ := right_step hkl hT.out
      have HX : Hid _ := fun h => right_no hkl h
      clear hc hr
      generalize N[k] = x at *
      by_cases hx : 0 ≤ x ∧ x ≤ 1073741824
      · have HT' : Hid (rightD (N.take (k + 1)) = true) := by rw [HS.out]; show _ = _; simpa using hx
        obtain ⟨hx0, hx1⟩ := hx
        go_wp2
        go_round
        case rel => exact ⟨k + 1, by omega, by go_num, HT'⟩
        case measure => simp [RowKit.intOf]; omega
      · have HT' : Hid (rightD N = false) := HX.out hx
        by_cases hx0 : x < 0
        · go_wp2
          go_ret
          exact ⟨by rw [errD_no HT'.out]; rfl, rfl⟩
        · have hx1 : 1073741824 < x := by omega
          go_wp2
          go_ret
          exact ⟨by rw [errD_no HT'.out]; rfl, rfl⟩
    · have h2 := hT.out
      rw [List.take_of_length_le (by rw [HN.out]; omega)] at h2
      have HH : Hid (rightD N = true) := h2
      clear h2
      go_wp2
      go_ret
      exact ⟨by rw [errD_ok HH.out]; rfl, rfl⟩

theorem dCheck_any (a : Option Addr) (n cap : Nat) (N : List Int) (w : World) (hn : N.length = n) (h : n ≤ 65536) (hr : RdI .i64 w a N) :
    Calls Try.prog 29 #[.slice a n cap] w fun e w' => e = .returned (.int .i64 (chkD N)) ∧ w' = w := by
  unfold chkD
  by_cases h5 : n < 1 ∨ 5 < n
  · rw [if_pos (by omega)]
    exact dCheck_len a n cap w h5 h
  · rw [if_neg (by omega)]
    exact dCheck_few a n cap N w hn (by omega) (by omega) hr

theorem dotCheck : DotCheck := by
  intro a n cap N w hn h _ hr
  exact (dCheck_any a n cap N w hn h hr).mono fun e w' ⟨h1, h2⟩ => ⟨h1, by rw [h2]; exact Below.refl _ _⟩

set_option maxHeartbeats 400000 in
theorem dPlace_yes (a : Option Addr) (n cap : Nat) (p : Int) (w : World) (h0 : 0 ≤ p) (h1 : p < n) (h : n ≤ 65536) :
    Calls Try.prog 31 #[.slice a n cap, .int .i64 p] w fun e w' => e = .returned (.bool true) ∧ w' = w := by
  go_enter Try.func31, Try.ntmps31
  go_wp2
  go_ret
  exact ⟨rfl, rfl⟩

set_option maxHeartbeats 400000 in
theorem dPlace_no (a : Option Addr) (n cap : Nat) (p : Int) (w : World) (h0 : p < 0 ∨ n ≤ p) (h : n ≤ 65536) :
    Calls Try.prog 31 #[.slice a n cap, .int .i64 p] w fun e w' => e = .returned (.bool false) ∧ w' = w := by
  by_cases hp : p < 0
  · clear h0
    have hq : decide (0 ≤ p) = false := by simpa using hp
    go_enter Try.func31, Try.ntmps31
    go_wp2
    go_ret
    exact ⟨rfl, rfl⟩
  · have h1 : (n : Int) ≤ p := by omega
    have h2 : 0 ≤ p := by omega
    have hq : decide (p < (n : Int)) = false := by simpa using h1
    clear h0 hp
    go_enter Try.func31, Try.ntmps31
    go_wp2
    go_ret
    exact ⟨rfl, rfl⟩

set_option maxHeartbeats 1000000 in
theorem dotHas : DotHas := by
  intro a n cap p k N w hn hl _ _ _ hr
  cases hp : placeD N p with
  | false =>
    have e : hasD N p k = false := by simp [hasD, hp]
    rw [e]
    unfold placeD at hp
    rw [hn] at hp
    have hp' : ¬ (0 ≤ p ∧ p ≤ (n : Int) - 1) := by simpa using hp
    clear hp hn
    go_enter Try.func22, Try.ntmps22
    go_wp2
    go_quiet ((go_at_call 31; exact Calls.quiet_of_same (dPlace_no _ _ _ _ _ (by omega) (by omega))))
    go_wp2
    go_ret
    exact ⟨rfl, below_box _ _ _⟩
  | true =>
    obtain ⟨q, hq, rfl, hat⟩ := atD_at hp
    have e : hasD N (q : Int) k = (decide (1 ≤ k) && decide (k ≤ N[q])) := by simp [hasD, hp, hat]
    rw [e]
    obtain ⟨b, off, rfl, hc⟩ := hr (by omega)
    have x0 := cell_later (alloc_below w (.cells #[.int .i64 (q : Int), .int .i64 k] 43)) (hc q hq)
    have hqn : q < n := by omega
    clear hc hr hat hp e
    generalize N[q] = x at *
    clear hq hn
    have b1 : (0 : Int) ≤ (q : Int) := by omega
    have b2 : (q : Int) < (n : Int) := by omega
    by_cases hk : 1 ≤ k
    · rw [decide_eq_true hk, Bool.true_and]
      go_enter Try.func22, Try.ntmps22
      go_wp2
      go_quiet ((go_at_call 31; exact Calls.quiet_of_same (dPlace_yes _ _ _ _ _ (by omega) (by omega) (by omega))))
      go_wp2
      go_ret
      exact ⟨rfl, below_box _ _ _⟩
    · rw [decide_eq_false hk, Bool.false_and]
      have hkd : decide (1 ≤ k) = false := by simpa using hk
      go_enter Try.func22, Try.ntmps22
      go_wp2
      go_quiet ((go_at_call 31; exact Calls.quiet_of_same (dPlace_yes _ _ _ _ _ (by omega) (by omega) (by omega))))
      go_wp2
      go_ret
      exact ⟨rfl, below_box _ _ _⟩

set_option maxHeartbeats 1000000 in
theorem dotLe : DotLe := by
  intro a b n m cap dap A B w hn hm hl hr _ _ ha hb
  by_cases hnm : n = m
  · subst hnm
    have HN : Hid (A.length = n) := hn
    have HM : Hid (B.length = n) := hm
    clear hn hm
    go_enter Try.func21, Try.ntmps21
    go_wp2
    go_loop [14] (fun i => ∃ k : Nat, k ≤ n ∧ i = .int .i64 k ∧ Hid (leD A B = leD (A.drop k) (B.drop k))) (fun i => n - (RowKit.intOf i).toNat)
    case atStart => exact ⟨0, Nat.zero_le _, rfl, rfl⟩
    case round =>
      obtain ⟨k, hk, rfl, hT⟩ := hrel
      by_cases hlt : k < n
      · have hkl : k < A.length := by rw [HN.out]; exact hlt
        have hkr : k < B.length := by rw [HM.out]; exact hlt
        obtain ⟨b1, o1, rfl, hc1⟩ := ha (by omega)
        obtain ⟨b2, o2, rfl, hc2⟩ := hb (by omega)
        have hx1 := hc1 k hkl
        have hx2 := hc2 k hkr
        have HQ : Hid (leD A B = (decide (A[k] ≤ B[k]) && leD (A.drop (k + 1)) (B.drop (k + 1)))) := by
          rw [← leD_step hkl hkr]; exact hT
        clear hc1 hc2 ha hb hT
        generalize A[k] = x at *
        generalize B[k] = y at *
        clear hkl hkr
        by_cases hq : x ≤ y
        · have HT' : Hid (leD A B = leD (A.drop (k + 1)) (B.drop (k + 1))) := by have := HQ.out; rwa [decide_eq_true hq, Bool.true_and] at this
          have hqd : decide (y < x) = false := by simp; omega
          clear HQ
          go_wp2
          go_round
          case rel => exact ⟨k + 1, by omega, by go_num, HT'⟩
          case measure => simp [RowKit.intOf]; omega
        · have HT' : Hid (leD A B = false) := by have := HQ.out; rwa [decide_eq_false hq, Bool.false_and] at this
          have hqd : decide (y < x) = true := by simp; omega
          clear HQ
          go_wp2
          go_ret
          exact ⟨by rw [HT'.out]; rfl, Below.refl _ _⟩
      · have HE : Hid (leD A B = true) := by
          have h1 := hT.out
          rw [List.drop_of_length_le (by rw [HN.out]; omega), List.drop_of_length_le (by rw [HM.out]; omega)] at h1
          exact h1
        go_wp2
        go_ret
        exact ⟨by rw [HE.out]; rfl, Below.refl _ _⟩
  · have HE : Hid (leD A B = false) := leD_len (by omega)
    have hbq : ((n : Int) != (m : Int)) = true := by simp; omega
    clear hn hm hnm
    go_enter Try.func21, Try.ntmps21
    go_wp2
    go_ret
    exact ⟨by rw [HE.out]; rfl, Below.refl _ _⟩

set_option maxHeartbeats 400000 in
theorem cloneInts_some (b off n cap : Nat) (N : List Int) (w : World) (hn : N.length = n) (h1 : 1 ≤ n) (h : n ≤ 65536) (hr : RdI .i64 w (some ⟨b, off, none⟩) N) :
    Calls Try.prog 33 #[.slice (some ⟨b, off, none⟩) n cap] w fun e w' => ∃ g cap', e = .returned (.slice (some ⟨g, 0, none⟩) n cap') ∧ n ≤ cap' ∧ OwnI w' w.heap.size (.slice (some ⟨g, 0, none⟩) n cap') N ∧ Below w.heap.size w w' := by
  have hO : OwnI (w.alloc (.cells #[] 3)) w.heap.size (.slice (some ⟨w.heap.size, 0, none⟩) 0 0) [] := World.ownsRow_made w #[] 0 (Nat.le_refl _) (by unfold maxLen; omega) rfl
  obtain ⟨a', cap', w', hrun, hc, ho, hrd, hnl, _, hb⟩ := run_append_ints (ty := 23) (cap := cap) hO (n := 0) rfl hn (hr.later (alloc_below w _)) (fun h => by cases h) (by omega) h (by simp)
  rw [Nat.zero_add, List.nil_append] at *
  obtain ⟨g, rfl⟩ : ∃ g, a' = some ⟨g, 0, none⟩ := by
    obtain ⟨_, ⟨hv, h0⟩ | ⟨g, c, cur, hv, _⟩⟩ := ho
    · omega
    · simp only [Value.slice.injEq] at hv
      exact ⟨g, hv.1⟩
  have HO : Hid (OwnI w' w.heap.size (.slice (some ⟨g, 0, none⟩) n cap') N) := ho
  have HB : Hid (Below w.heap.size w w') := (alloc_below w _).trans hb
  clear hn hr hO ho hrd hnl hb
  have q := fun (w : World) (a : Option Addr) (n c n' c' : Nat) => Lib.run_eql_slice_nil (P := Try.prog) w 23 3 a n c n' c' Try.underlying23
  go_enter Try.func33, Try.ntmps33
  go_wp2_with (at_builtin; refine wpList_append_run rfl _ _ 23 23 rfl _ _ _ _ rfl rfl hrun ?_)
  go_ret
  exact ⟨g, cap', rfl, hc, HO.out, HB.out⟩

theorem nextD_at {N : List Int} {p k : Int} (h : nextD N p k = true) : ∃ q : Nat, q < N.length ∧ p = q := by
  unfold nextD at h
  rw [Bool.and_eq_true] at h
  obtain ⟨q, hq, e, _⟩ := atD_at h.1
  exact ⟨q, hq, e⟩

theorem box2_cells {t : TypeId} (w : World) (x y : Value) : (w.alloc (.cells #[x, y] t)).cell? ⟨w.heap.size, 0, none⟩ = some x ∧ (w.alloc (.cells #[x, y] t)).cell? ⟨w.heap.size, 1, none⟩ = some y := by
  have hh : (w.alloc (.cells #[x, y] t)).heap[w.heap.size]? = some (.cells #[x, y] t (0, 0)) := by show (w.heap.push _)[w.heap.size]? = _; simp
  exact ⟨by rw [cell_of_row _ _ _ _ _ _ hh]; rfl, by rw [cell_of_row _ _ _ _ _ _ hh]; rfl⟩

theorem dCheck_of {c : Int} (a : Option Addr) (n cap : Nat) (N : List Int) (w : World) (hc : chkD N = c) (hn : N.length = n) (h : n ≤ 65536) (hr : RdI .i64 w a N) :
    Calls Try.prog 29 #[.slice a n cap] w fun e w' => e = .returned (.int .i64 c) ∧ w' = w := by
  subst hc
  exact dCheck_any a n cap N w hn h hr

theorem GivesI.of_own {w w' : World} {e : Ending} {g n cap : Nat} {N : List Int} (h : e = .returned (.tuple #[.slice (some ⟨g, 0, none⟩) n cap, .int .i64 0])) (hn : N.length = n) (hl : n ≤ 65536) (hc : n ≤ cap) (ho : OwnI w' w.heap.size (.slice (some ⟨g, 0, none⟩) n cap) N) (hb : Below w.heap.size w w') : GivesI w w' e (N, 0) := by
  obtain ⟨a, c, hv, _, hr, _⟩ := ho.form
  rw [hn] at hv
  simp only [Value.slice.injEq] at hv
  obtain ⟨rfl, _, rfl⟩ := hv
  exact ⟨_, n, cap, h, hn, hl, hc, ho, hr, (fun h => by cases h), hb⟩

/-- Halfway: the first k numbers are the greater ones already. -/
def midM (P N : List Int) (k : Nat) : List Int := (maxD P N).take k ++ P.drop k

theorem midM_len {P N : List Int} {k : Nat} (h : P.length = N.length) (hk : k ≤ P.length) : (midM P N k).length = P.length := by
  unfold midM
  rw [List.length_append, List.length_take, List.length_drop, maxD_len h]
  omega

theorem midM_at {P N : List Int} {k : Nat} (h : P.length = N.length) (hk : k < P.length) (h2 : k < (midM P N k).length) : (midM P N k)[k] = P[k] := by
  have e : (midM P N k)[k]? = some P[k] := by
    unfold midM
    rw [List.getElem?_append_right (by rw [List.length_take, maxD_len h]; omega), List.length_take, maxD_len h, List.getElem?_drop, show k + (k - min k P.length) = k from by omega, List.getElem?_eq_getElem hk]
  rw [List.getElem?_eq_getElem h2] at e
  exact Option.some.inj e

theorem midM_set {P N : List Int} {k : Nat} (h : P.length = N.length) (hk : k < P.length) (hk2 : k < N.length) : (midM P N k).set k (max P[k] N[k]) = midM P N (k + 1) := by
  unfold midM
  have hl : ((maxD P N).take k).length = k := by rw [List.length_take, maxD_len h]; omega
  rw [List.set_append_right _ _ (by omega), hl, Nat.sub_self, List.drop_eq_getElem_cons hk, List.set_cons_zero, List.take_succ_eq_append_getElem (by rw [maxD_len h]; exact hk), maxD_at hk hk2]
  simp

theorem midM_end {P N : List Int} (h : P.length = N.length) : midM P N P.length = maxD P N := by
  unfold midM
  rw [List.drop_length, List.append_nil, List.take_of_length_le (by rw [maxD_len h]; exact Nat.le_refl _)]

set_option maxHeartbeats 1000000 in
theorem dMerge_some (b1 o1 b2 o2 n cap dap : Nat) (A B : List Int) (w : World) (hn : A.length = n) (hm : B.length = n) (h1 : 1 ≤ n) (hl : n ≤ 65536) (ha : RdI .i64 w (some ⟨b1, o1, none⟩) A) (hb : RdI .i64 w (some ⟨b2, o2, none⟩) B) (kA : chkD A = 0) (kB : chkD B = 0) :
    Calls Try.prog 28 #[.slice (some ⟨b1, o1, none⟩) n cap, .slice (some ⟨b2, o2, none⟩) n dap] w fun e w' => GivesI w w' e (maxD A B, 0) := by
  have HN : Hid (A.length = n) := hn
  have HM : Hid (B.length = n) := hm
  have HA : Hid (RdI .i64 w (some ⟨b1, o1, none⟩) A) := ha
  have HB : Hid (RdI .i64 w (some ⟨b2, o2, none⟩) B) := hb
  have C1 := dCheck_of (some ⟨b1, o1, none⟩) n cap A w kA hn hl ha
  have C2 := dCheck_of (some ⟨b2, o2, none⟩) n dap B w kB hm hl hb
  clear hn hm ha hb kA kB
  go_enter Try.func28, Try.ntmps28
  go_wp2_with fail
  refine C1.mono ?_
  rintro e w1 ⟨rfl, hw1⟩
  subst w1
  go_wp2_with fail
  refine C2.mono ?_
  rintro e w1 ⟨rfl, hw1⟩
  subst w1
  go_wp2_with fail
  refine (cloneInts_some b1 o1 n cap A _ HN.out h1 hl HA.out).mono ?_
  rintro e w2 ⟨g, cap', rfl, hcap, ho, hb⟩
  have HO1 : Hid (OwnI w2 w.heap.size (.slice (some ⟨g, 0, none⟩) n cap') (midM A B 0)) := by
    have : midM A B 0 = A := by simp [midM]
    rw [this]
    exact ho
  have HB1 : Hid (Below w.heap.size w w2) := hb
  clear ho hb C1 C2
  go_wp2
  go_loopw [30] (fun i wr => ∃ k : Nat, k ≤ n ∧ i = .int .i64 k ∧ Hid (OwnI wr w.heap.size (.slice (some ⟨g, 0, none⟩) n cap') (midM A B k)) ∧ Hid (Below w.heap.size w wr)) (fun i _ => n - (RowKit.intOf i).toNat)
  case atStart => exact ⟨0, Nat.zero_le _, rfl, HO1, HB1⟩
  case round =>
  clear HO1 HB1
  obtain ⟨k, hk, rfl, hO, hB⟩ := hrel
  by_cases hlt : k < n
  · have hkA : k < A.length := by rw [HN.out]; exact hlt
    have hkB : k < B.length := by rw [HM.out]; exact hlt
    have hAB : A.length = B.length := by rw [HN.out, HM.out]
    obtain ⟨b2', o2', e2, hc2⟩ := HB.out (by omega)
    simp only [Option.some.injEq, Addr.mk.injEq, and_true] at e2
    obtain ⟨rfl, rfl⟩ := e2
    have y0 := cell_later hB.out (hc2 k hkB)
    have hML : (midM A B k).length = n := by rw [midM_len hAB (by omega), HN.out]
    obtain ⟨c0, f0⟩ := hO.out.at_ hML hlt
    rw [midM_at hAB hkA] at c0
    obtain ⟨hO', hB', hG⟩ := hO.out.put hML k (max A[k] B[k])
    rw [midM_set hAB hkA hkB] at hO'
    generalize A[k] = x at *
    generalize B[k] = y at *
    have HO' : Hid (OwnI (wr.setCell ⟨g, k, none⟩ (.int .i64 (max x y))) w.heap.size (.slice (some ⟨g, 0, none⟩) n cap') (midM A B (k + 1))) := hO'
    have HB' : Hid (Below w.heap.size w (wr.setCell ⟨g, k, none⟩ (.int .i64 (max x y)))) := hB.out.trans hB'
    clear hc2 hML hO hB hO' hB' hG hkA hkB hAB
    go_wp2
    go_roundw
    case rel => exact ⟨k + 1, by omega, by go_num, HO', HB'⟩
    case measure => simp [RowKit.intOf]; omega
  · obtain rfl : k = n := by omega
    have HE : Hid (midM A B k = maxD A B) := by
      have := midM_end (P := A) (N := B) (by rw [HN.out, HM.out])
      rw [HN.out] at this
      exact this
    go_wp2
    go_ret2
    rw [HE.out] at hO
    exact GivesI.of_own rfl (by rw [maxD_len (by rw [HN.out, HM.out]), HN.out]) hl hcap hO.out hB.out

set_option maxHeartbeats 1000000 in
theorem dotMerge : DotMerge := by
  intro a b n m cap dap A B w hn hm hl hr _ _ ha hb
  unfold mergeD
  by_cases kA : chkD A = 0
  · rw [if_neg (by simp [kA])]
    by_cases kB : chkD B = 0
    · rw [if_neg (by simp [kB])]
      have hA := (chkD_ok.1 kA)
      by_cases hnm : n = m
      · rw [if_neg (by omega)]
        subst hnm
        obtain ⟨b1, o1, rfl, _⟩ := ha (by omega)
        obtain ⟨b2, o2, rfl, _⟩ := hb (by omega)
        exact dMerge_some b1 o1 b2 o2 n cap dap A B w hn hm (by omega) hl ha hb kA kB
      · rw [if_pos (by omega)]
        have C1 := dCheck_of a n cap A w kA hn hl ha
        have C2 := dCheck_of b m dap B w kB hm hr hb
        have hbq : ((n : Int) != (m : Int)) = true := by simp; omega
        clear hn hm hnm ha hb kA kB hA
        go_enter Try.func28, Try.ntmps28
        go_wp2_with fail
        refine C1.mono ?_
        rintro e w1 ⟨rfl, rfl⟩
        go_wp2_with fail
        refine C2.mono ?_
        rintro e w1 ⟨rfl, rfl⟩
        go_wp2
        go_ret2
        exact GivesI.of_no rfl (Below.refl _ _)
    · rw [if_pos kB]
      have C1 := dCheck_of a n cap A w kA hn hl ha
      have C2 := dCheck_any b m dap B w hm hr hb
      clear hn hm ha hb kA
      generalize chkD B = c at *
      have hcn : (c != 0) = true := by simp [kB]
      go_enter Try.func28, Try.ntmps28
      go_wp2_with fail
      refine C1.mono ?_
      rintro e w1 ⟨rfl, rfl⟩
      go_wp2_with fail
      refine C2.mono ?_
      rintro e w1 ⟨rfl, rfl⟩
      go_wp2
      go_ret2
      exact GivesI.of_no rfl (Below.refl _ _)
  · rw [if_pos kA]
    have C1 := dCheck_any a n cap A w hn hl ha
    clear hn hm ha hb
    generalize chkD A = c at *
    have hcn : (c != 0) = true := by simp [kA]
    go_enter Try.func28, Try.ntmps28
    go_wp2_with fail
    refine C1.mono ?_
    rintro e w1 ⟨rfl, rfl⟩
    go_wp2
    go_ret2
    exact GivesI.of_no rfl (Below.refl _ _)

/-- The first error, or that lengths are unlike. -/
def allD (L : List (List Int)) : Int := (leastD L).2

theorem leastD_no {L : List (List Int)} (h : allD L ≠ 0) : leastD L = ([], allD L) := by
  unfold allD at h ⊢
  match L with
  | [] => rfl
  | v :: L =>
    simp only [leastD] at h ⊢
    by_cases h1 : chksD (v :: L) ≠ 0
    · rw [if_pos h1]
    · rw [if_neg h1] at h ⊢
      by_cases h2 : evenD v.length (v :: L) = true
      · rw [if_pos h2] at h
        exact absurd rfl h
      · rw [if_neg h2]

theorem allD_ok {L : List (List Int)} (h : allD L = 0) : ∃ h0 : 0 < L.length, chksD L = 0 ∧ evenD L[0].length L = true := by
  unfold allD at h
  match L with
  | [] => exact absurd h (by simp [leastD])
  | v :: L =>
    simp only [leastD] at h
    refine ⟨by simp, ?_⟩
    simp only [List.getElem_cons_zero]
    by_cases h1 : chksD (v :: L) ≠ 0
    · rw [if_pos h1] at h
      exact absurd h h1
    · rw [if_neg h1] at h
      by_cases h2 : evenD v.length (v :: L) = true
      · exact ⟨Decidable.not_not.1 h1, h2⟩
      · rw [if_neg h2] at h
        exact absurd h (by simp)

set_option maxHeartbeats 400000 in
theorem dAll_none (a : Option Addr) (cap : Nat) (w : World) :
    Calls Try.prog 32 #[.slice a 0 cap] w fun e w' => e = .returned (.int .i64 2) ∧ w' = w := by
  go_enter Try.func32, Try.ntmps32
  go_wp2
  go_ret
  exact ⟨rfl, rfl⟩

set_option maxRecDepth 100000 in
set_option maxHeartbeats 4000000 in
theorem dAll_some (b off n cap : Nat) (L : List (List Int)) (w : World) (hn : L.length = n) (h1 : 1 ≤ n) (hl : n ≤ 65536) (hv : ∀ v ∈ L, v.length ≤ 65536) (hr : RdII w (some ⟨b, off, none⟩) L) :
    Calls Try.prog 32 #[.slice (some ⟨b, off, none⟩) n cap] w fun e w' => e = .returned (.int .i64 (allD L)) ∧ w' = w := by
  have HN : Hid (L.length = n) := hn
  have HR : Hid (RdII w (some ⟨b, off, none⟩) L) := hr
  have n0 : ((n : Int) == 0) = false := by simp; omega
  have h0 : 0 < L.length := by omega
  have H0 : Hid (0 < L.length) := h0
  clear hn hr h0
  go_enter Try.func32, Try.ntmps32
  go_wp2
  go_loop [13] (fun i => ∃ k : Nat, k ≤ n ∧ i = .int .i64 k ∧ Hid (chksD L = chksD (L.drop k))) (fun i => n - (RowKit.intOf i).toNat)
  case atStart => exact ⟨0, Nat.zero_le _, rfl, rfl⟩
  case round =>
  obtain ⟨k, hk, rfl, hT⟩ := hrel
  by_cases hlt : k < n
  · have hkl : k < L.length := by rw [HN.out]; exact hlt
    obtain ⟨b', off', e', hc⟩ := HR.out H0.out
    simp only [Option.some.injEq, Addr.mk.injEq, and_true] at e'
    obtain ⟨rfl, rfl⟩ := e'
    obtain ⟨u, x0, a2, cap2, rfl, hc2, hr2, hn2⟩ := hc k hkl
    have hvl := hv _ (List.getElem_mem hkl)
    have HS : Hid (chksD L = if chkD L[k] ≠ 0 then chkD L[k] else chksD (L.drop (k + 1))) := by rw [← chksD_step hkl]; exact hT
    clear hc hn2 hT
    generalize L[k] = N at *
    clear hkl
    obtain ⟨m, hm⟩ : ∃ m, N.length = m := ⟨_, rfl⟩
    rw [hm] at x0 hc2 hvl
    have C := dCheck_any a2 m cap2 N w hm (by omega) hr2
    clear hm hr2
    generalize chkD N = c at *
    by_cases hc0 : c = 0
    · subst hc0
      have HT' : Hid (chksD L = chksD (L.drop (k + 1))) := by have := HS.out; rwa [if_neg (by simp)] at this
      clear HS
      go_wp2_with fail
      refine C.mono ?_
      rintro e w1 ⟨rfl, rfl⟩
      go_wp2
      go_round
      case rel => exact ⟨k + 1, by omega, by go_num, HT'⟩
      case measure => simp [RowKit.intOf]; omega
    · have HT' : Hid (chksD L = c) := by have := HS.out; rwa [if_pos hc0] at this
      have hcn : (c != 0) = true := by simp [hc0]
      have HE : Hid (allD L = c) := by
        have := leastD_err H0.out (by rw [HT'.out]; exact hc0)
        rw [HT'.out] at this
        show (leastD L).2 = c
        rw [this]
      clear HS hc0
      go_wp2_with fail
      refine C.mono ?_
      rintro e w1 ⟨rfl, rfl⟩
      go_wp2
      go_ret
      exact ⟨by rw [HE.out]; rfl, rfl⟩
  have HC : Hid (chksD L = 0) := by
    have h := hT.out
    rw [List.drop_of_length_le (by rw [HN.out]; omega)] at h
    exact h
  obtain rfl : n = k := by omega
  clear hT hlt hk
  go_wp2
  go_loop [25] (fun i => ∃ k : Nat, k ≤ n ∧ i = .int .i64 k ∧ Hid (evenD (L[0]'H0.out).length (L.take k) = true)) (fun i => n - (RowKit.intOf i).toNat)
  case atStart => exact ⟨0, Nat.zero_le _, rfl, rfl⟩
  case round =>
  obtain ⟨k, hk, rfl, hT⟩ := hrel
  obtain ⟨b', off', e', hc⟩ := HR.out H0.out
  simp only [Option.some.injEq, Addr.mk.injEq, and_true] at e'
  obtain ⟨rfl, rfl⟩ := e'
  obtain ⟨u0, x00, a0, cap0, rfl, hc0, hr0, hn0⟩ := hc 0 H0.out
  obtain ⟨m, hm⟩ : ∃ m, (L[0]'H0.out).length = m := ⟨_, rfl⟩
  have hm5 : 1 ≤ m ∧ m ≤ 5 := by
    have := chkD_ok.1 (chksD_ok HC.out _ (List.getElem_mem H0.out))
    omega
  obtain ⟨m1, m5⟩ := hm5
  rw [hm] at x00 hc0 hT
  rw [Nat.add_zero] at x00
  have HM : Hid ((L[0]'H0.out).length = m) := hm
  by_cases hlt : k < n
  · have hkl : k < L.length := by rw [HN.out]; exact hlt
    obtain ⟨u, x0, a2, cap2, rfl, hc2, hr2, hn2⟩ := hc k hkl
    have hvl := hv _ (List.getElem_mem hkl)
    have HS : Hid (evenD m (L.take (k + 1)) = decide (L[k].length = m)) := by
      have h := hT.out
      unfold evenD at h ⊢
      show _ = _
      rw [List.take_succ_eq_append_getElem hkl, List.all_append, h]
      simp
    have HX : Hid (L[k].length ≠ m → evenD m L = false) := fun h => by
      unfold evenD
      rw [List.all_eq_false]
      exact ⟨_, List.getElem_mem hkl, by simpa using h⟩
    clear hc hr2 hn2 hr0 hn0 hm
    generalize L[k].length = p at *
    clear hkl
    have z3 : 0 < n := by omega
    by_cases hpm : p = m
    · subst hpm
      have HT' : Hid (evenD (L[0]'H0.out).length (L.take (k + 1)) = true) := by rw [HM.out, HS.out]; show _ = _; simp
      clear HS HX
      go_wp2
      go_round
      case rel => exact ⟨k + 1, by omega, by go_num, HT'⟩
      case measure => simp [RowKit.intOf]; omega
    · have HE : Hid (allD L = 2) := by
        show (leastD L).2 = 2
        rw [leastD_odd H0.out HC.out (by rw [HM.out]; exact HX.out hpm)]
      have hpn : ((p : Int) != (m : Int)) = true := by simp; omega
      clear HS HX hpm
      go_wp2
      go_ret
      exact ⟨by rw [HE.out]; rfl, rfl⟩
  have HV : Hid (evenD m L = true) := by
    have h := hT.out
    rw [List.take_of_length_le (by rw [HN.out]; omega)] at h
    exact h
  have HE : Hid (allD L = 0) := by
    show (leastD L).2 = 0
    rw [leastD_ok H0.out HC.out (by rw [HM.out]; exact HV.out)]
  clear hc hr0 hn0 hm
  go_wp2
  go_ret
  exact ⟨by rw [HE.out]; rfl, rfl⟩

theorem dAll_any (a : Option Addr) (n cap : Nat) (L : List (List Int)) (w : World) (hn : L.length = n) (hl : n ≤ 65536) (hv : ∀ v ∈ L, v.length ≤ 65536) (hr : RdII w a L) :
    Calls Try.prog 32 #[.slice a n cap] w fun e w' => e = .returned (.int .i64 (allD L)) ∧ w' = w := by
  rcases Nat.eq_zero_or_pos n with rfl | h1
  · obtain rfl := List.eq_nil_of_length_eq_zero hn
    exact dAll_none a cap w
  · obtain ⟨b, off, rfl, _⟩ := hr (by omega)
    exact dAll_some b off n cap L w hn h1 hl hv hr

set_option maxRecDepth 100000 in
set_option maxHeartbeats 4000000 in
theorem dLeast_more (b off n cap : Nat) (L : List (List Int)) (w : World) (hn : L.length = n) (h1 : 1 ≤ n) (hl : n ≤ 65536) (hcap : n ≤ cap) (hcap1 : 2 ≤ cap) (hv : ∀ v ∈ L, v.length ≤ 65536) (hr : RdII w (some ⟨b, off, none⟩) L) (hk : allD L = 0) :
    Calls Try.prog 24 #[.slice (some ⟨b, off, none⟩) n cap] w fun e w' => GivesI w w' e (leastD L) := by
  obtain ⟨h0, hc, he⟩ := allD_ok hk
  have HE : Hid (leastD L = (L.foldl minD L[0], 0)) := leastD_ok h0 hc he
  have HN : Hid (L.length = n) := hn
  have HR : Hid (RdII w (some ⟨b, off, none⟩) L) := hr
  have C1 := dAll_any (some ⟨b, off, none⟩) n cap L w hn hl hv hr
  rw [hk] at C1
  obtain ⟨m, hm⟩ : ∃ m, L[0].length = m := ⟨_, rfl⟩
  have hm5 : 1 ≤ m ∧ m ≤ 5 := by
    have := chkD_ok.1 (chksD_ok hc _ (List.getElem_mem h0))
    omega
  obtain ⟨m1, m5⟩ := hm5
  have HV : Hid (evenD m L = true) := by rw [hm] at he; exact he
  obtain ⟨b', off', e', hcs⟩ := hr h0
  simp only [Option.some.injEq, Addr.mk.injEq, and_true] at e'
  obtain ⟨rfl, rfl⟩ := e'
  obtain ⟨u0, x00, a0, cap0, rfl, hc0, hr0, hn0⟩ := hcs 0 h0
  rw [hm] at x00 hc0
  rw [Nat.add_zero] at x00
  have HT1 : Hid ((L.take 1).foldl minD L[0] = L[0]) := by
    show _ = _
    rw [List.take_succ_eq_append_getElem h0]
    simp [minD_self]
  have HM : Hid (L[0].length = m) := hm
  have H0 : Hid (0 < L.length) := h0
  obtain ⟨b0, o0, rfl, _⟩ := hr0 (by omega)
  have HR0 : Hid (RdI .i64 w (some ⟨b0, o0, none⟩) L[0]) := hr0
  clear hcs hn0 hr0 hc he hk hm hr hn hv
  generalize L[0] = N0 at *
  have hc1 : (cap = 1) = False := by simp; omega
  have z3 : 0 < n := by omega
  go_enter Try.func24, Try.ntmps24
  go_wp2_with fail
  refine C1.mono ?_
  rintro e w1 ⟨rfl, hw1⟩
  subst w1
  go_wp2_with fail
  refine (cloneInts_some b0 o0 m cap0 N0 _ HM.out m1 (by omega) HR0.out).mono ?_
  rintro e w2 ⟨g, cap', rfl, hcap', ho, hb⟩
  have HO1 : Hid (OwnI w2 w.heap.size (.slice (some ⟨g, 0, none⟩) m cap') ((L.take 1).foldl minD N0)) := by rw [HT1.out]; exact ho
  have HB1 : Hid (Below w.heap.size w w2) := hb
  clear ho hb C1 HR0
  have ec : (n : Int) - 1 = ((n - 1 : Nat) : Int) := by omega
  go_wp2
  go_loopw [22] (fun i wr => ∃ j : Nat, j ≤ n - 1 ∧ i = .int .i64 j ∧ Hid (OwnI wr w.heap.size (.slice (some ⟨g, 0, none⟩) m cap') ((L.take (j + 1)).foldl minD N0)) ∧ Hid (Below w.heap.size w wr)) (fun i _ => n - (RowKit.intOf i).toNat)
  case atStart => exact ⟨0, Nat.zero_le _, rfl, HO1, HB1⟩
  case round =>
  clear HO1 HB1
  obtain ⟨j, hj, rfl, hO, hB⟩ := hrel
  by_cases hlt : j < n - 1
  · have hjl : j + 1 < L.length := by rw [HN.out]; omega
    obtain ⟨bx, ox, ex, hcs⟩ := HR.out H0.out
    simp only [Option.some.injEq, Addr.mk.injEq, and_true] at ex
    obtain ⟨rfl, rfl⟩ := ex
    obtain ⟨u, x0, aj, cj, rfl, hcj, hrj, hnj⟩ := hcs (j + 1) hjl
    rw [show off + (j + 1) = off + 1 + j from by omega] at x0
    have hmj : L[j + 1].length = m := evenD_at HV.out hjl
    have HT : Hid ((L.take (j + 1 + 1)).foldl minD N0 = minD ((L.take (j + 1)).foldl minD N0) L[j + 1]) := by
      show _ = _
      rw [List.take_succ_eq_append_getElem hjl, List.foldl_append]
      rfl
    have HPl : Hid (((L.take (j + 1)).foldl minD N0).length = m) := fold_len HM.out (by
      have h := HV.out
      unfold evenD at h ⊢
      rw [List.all_eq_true] at h ⊢
      exact fun x hx => h x (List.mem_of_mem_take hx))
    rw [hmj] at x0 hcj
    generalize (L.take (j + 1)).foldl minD N0 = P at *
    generalize L[j + 1] = N at *
    have HMj : Hid (N.length = m) := hmj
    have HRj : Hid (RdI .i64 w aj N) := hrj
    have HO1 : Hid (OwnI wr w.heap.size (.slice (some ⟨g, 0, none⟩) m cap') (midD P N 0)) := by
      have : midD P N 0 = P := by simp [midD]
      rw [this]
      exact hO
    have x1 := cell_later hB.out x0
    clear hcs hnj hjl hmj hrj hO x0 x00
    obtain ⟨wb, rfl⟩ : ∃ x, x = wr := ⟨_, rfl⟩
    go_wp2
    go_loopw [28] (fun i wr => ∃ k : Nat, k ≤ m ∧ i = .int .i64 k ∧ Hid (OwnI wr w.heap.size (.slice (some ⟨g, 0, none⟩) m cap') (midD P N k)) ∧ Hid (Below w.heap.size w wr)) (fun i _ => m - (RowKit.intOf i).toNat)
    case atStart => exact ⟨0, Nat.zero_le _, rfl, HO1, hB⟩
    case round =>
    clear HO1 hB x1
    obtain ⟨k, hk, rfl, hO, hB⟩ := hrel
    by_cases hkm : k < m
    · have hkN : k < N.length := by rw [HMj.out]; exact hkm
      have hkP : k < P.length := by rw [HPl.out]; exact hkm
      have hPN : P.length = N.length := by rw [HPl.out, HMj.out]
      obtain ⟨bj, oj, rfl, hcj2⟩ := HRj.out (by omega)
      have y0 := cell_later hB.out (hcj2 k hkN)
      have hML : (midD P N k).length = m := by rw [midD_len hPN (by omega), HPl.out]
      obtain ⟨c0, f0⟩ := hO.out.at_ hML hkm
      rw [midD_at hPN hkP] at c0
      obtain ⟨hO', hB', hG⟩ := hO.out.put hML k (min P[k] N[k])
      rw [midD_set hPN hkP hkN] at hO'
      generalize P[k] = x at *
      generalize N[k] = y at *
      have HO' : Hid (OwnI (wr.setCell ⟨g, k, none⟩ (.int .i64 (min x y))) w.heap.size (.slice (some ⟨g, 0, none⟩) m cap') (midD P N (k + 1))) := hO'
      have HB' : Hid (Below w.heap.size w (wr.setCell ⟨g, k, none⟩ (.int .i64 (min x y)))) := hB.out.trans hB'
      clear hcj2 hML hO hB hO' hB' hG hkN hkP hPN
      go_wp2
      go_roundw
      case rel => exact ⟨k + 1, by omega, by go_num, HO', HB'⟩
      case measure => simp [RowKit.intOf]; omega
    · obtain rfl : k = m := by omega
      have HX : Hid (midD P N k = (L.take (j + 1 + 1)).foldl minD N0) := by
        rw [HT.out]
        have := midD_end (P := P) (N := N) (by rw [HPl.out, HMj.out])
        rw [HPl.out] at this
        exact this
      rw [HX.out] at hO
      go_wp2
      go_roundw
      case rel => exact ⟨j + 1, by omega, by go_num, hO, hB⟩
      case measure => simp [RowKit.intOf]; omega
  · obtain rfl : j = n - 1 := by omega
    have HX : Hid (L.take (n - 1 + 1) = L) := List.take_of_length_le (by rw [HN.out]; omega)
    rw [HX.out] at hO
    have HL : Hid ((L.foldl minD N0).length = m) := fold_len HM.out HV.out
    go_wp2
    go_ret2
    rw [HE.out]
    exact GivesI.of_own rfl HL.out (by omega) hcap' hO.out hB.out

set_option maxRecDepth 100000 in
set_option maxHeartbeats 1000000 in
theorem dLeast_one (b off : Nat) (N0 : List Int) (w : World) (hv : N0.length ≤ 65536) (hr : RdII w (some ⟨b, off, none⟩) [N0]) (hk : allD [N0] = 0) :
    Calls Try.prog 24 #[.slice (some ⟨b, off, none⟩) 1 1] w fun e w' => GivesI w w' e (leastD [N0]) := by
  obtain ⟨h0, hc, he⟩ := allD_ok hk
  have HE : Hid (leastD [N0] = (N0, 0)) := by
    have := leastD_ok h0 hc he
    show _ = _
    simpa [minD_self] using this
  have C1 := dAll_any (some ⟨b, off, none⟩) 1 1 [N0] w rfl (by omega) (fun v h => by simp at h; rw [h]; exact hv) hr
  rw [hk] at C1
  obtain ⟨m, hm⟩ : ∃ m, N0.length = m := ⟨_, rfl⟩
  have hm5 : 1 ≤ m ∧ m ≤ 5 := by
    have := chkD_ok.1 (chksD_ok hc N0 (by simp))
    omega
  obtain ⟨m1, m5⟩ := hm5
  obtain ⟨b', off', e', hcs⟩ := hr h0
  simp only [Option.some.injEq, Addr.mk.injEq, and_true] at e'
  obtain ⟨rfl, rfl⟩ := e'
  obtain ⟨u0, x00, a0, cap0, rfl, hc0, hr0, hn0⟩ := hcs 0 h0
  simp only [List.getElem_cons_zero] at x00 hc0 hr0 hn0
  rw [hm] at x00 hc0
  rw [Nat.add_zero] at x00
  have HM : Hid (N0.length = m) := hm
  obtain ⟨b0, o0, rfl, _⟩ := hr0 (by omega)
  have HR0 : Hid (RdI .i64 w (some ⟨b0, o0, none⟩) N0) := hr0
  clear hcs hn0 hr0 hc he hk hm hr h0 hv
  go_enter Try.func24, Try.ntmps24
  go_wp2_with fail
  refine C1.mono ?_
  rintro e w1 ⟨rfl, hw1⟩
  subst w1
  go_wp2_with fail
  refine (cloneInts_some b0 o0 m cap0 N0 _ HM.out m1 (by omega) HR0.out).mono ?_
  rintro e w2 ⟨g, cap', rfl, hcap', ho, hb⟩
  have HO1 : Hid (OwnI w2 w.heap.size (.slice (some ⟨g, 0, none⟩) m cap') N0) := ho
  have HB1 : Hid (Below w.heap.size w w2) := hb
  clear ho hb C1 HR0
  go_wp2
  go_loop [22] (fun i => i = .int .i64 0) (fun i => 0)
  case atStart => rfl
  case round =>
    subst hrel
    go_wp2
    go_ret2
    rw [HE.out]
    exact GivesI.of_own rfl HM.out (by omega) hcap' HO1.out HB1.out

set_option maxHeartbeats 1000000 in
theorem dotLeast : DotLeastC := by
  intro a n cap L w hn hl hcap hv hr
  by_cases hk : allD L = 0
  · obtain ⟨h0, _⟩ := allD_ok hk
    obtain ⟨b, off, rfl, _⟩ := hr h0
    by_cases hc : 2 ≤ cap
    · exact dLeast_more b off n cap L w hn (by omega) hl hcap hc (fun v h => (hv v h).1) hr hk
    · obtain rfl : cap = 1 := by omega
      obtain rfl : n = 1 := by omega
      obtain ⟨N0, rfl⟩ := List.length_eq_one_iff.1 hn
      exact dLeast_one b off N0 w (hv N0 (by simp)).1 hr hk
  · rw [leastD_no hk]
    have C1 := dAll_any a n cap L w hn hl (fun v h => (hv v h).1) hr
    clear hn hv hr
    generalize allD L = c at *
    have hcn : (c != 0) = true := by simp [hk]
    go_enter Try.func24, Try.ntmps24
    go_wp2_with fail
    refine C1.mono ?_
    rintro e w1 ⟨rfl, rfl⟩
    go_wp2
    go_ret2
    exact GivesI.of_no rfl (Below.refl _ _)

end Go.Proofs.Ytljikgjgcpheaaa
