/-
  What the calls of package hlc answer, of the landed code: what 'HlcApi' asks.
-/
import Derived.Test.YtncidjlobjgibaaRows
import Derived.Test.YtncidjlobjgibaaHRef
import Derived.WalkKit
import Derived.WalkSpells
namespace Go.Proofs.Ytncidjlobjgibaa
open Go.RowKit Go.Lib
set_option linter.unusedVariables false

set_option maxHeartbeats 400000 in
theorem hNaN_any (n : Int) (w : World) : Calls Try.prog 24 #[.int .i64 n] w fun e w' => e = .returned (.bool false) ∧ w' = w := by
  go_enter Try.func24, Try.ntmps24
  go_wp2
  go_ret
  exact ⟨by simp, rfl⟩

/-- How two numbers are ordered. -/
def cmpN (a b : Int) : Int := if a ≠ b then sgnL a b else 0

set_option maxHeartbeats 400000 in
theorem hcmp_any (a b : Int) (w : World) : Calls Try.prog 22 #[.int .i64 a, .int .i64 b] w fun e w' => e = .returned (.int .i64 (cmpN a b)) ∧ w' = w := by
  rcases Int.lt_trichotomy a b with h | h | h
  · have e : cmpN a b = -1 := by unfold cmpN sgnL; rw [if_pos (by omega), if_pos h]
    rw [e]
    go_enter Try.func22, Try.ntmps22
    go_wp2_with fail
    refine (hNaN_any _ _).mono ?_
    rintro e w1 ⟨rfl, rfl⟩
    go_wp2_with fail
    refine (hNaN_any _ _).mono ?_
    rintro e w1 ⟨rfl, rfl⟩
    go_wp2
    go_ret
    exact ⟨rfl, rfl⟩
  · have e : cmpN a b = 0 := by unfold cmpN; rw [if_neg (by simp [h])]
    rw [e]
    subst h
    go_enter Try.func22, Try.ntmps22
    go_wp2_with fail
    refine (hNaN_any _ _).mono ?_
    rintro e w1 ⟨rfl, rfl⟩
    go_wp2_with fail
    refine (hNaN_any _ _).mono ?_
    rintro e w1 ⟨rfl, rfl⟩
    go_wp2
    go_ret
    exact ⟨rfl, rfl⟩
  · have e : cmpN a b = 1 := by unfold cmpN sgnL; rw [if_pos (by omega), if_neg (by omega)]
    rw [e]
    go_enter Try.func22, Try.ntmps22
    go_wp2_with fail
    refine (hNaN_any _ _).mono ?_
    rintro e w1 ⟨rfl, rfl⟩
    go_wp2_with fail
    refine (hNaN_any _ _).mono ?_
    rintro e w1 ⟨rfl, rfl⟩
    go_wp2
    go_ret
    exact ⟨rfl, rfl⟩

theorem hcmp_of {c : Int} (a b : Int) (w : World) (h : cmpN a b = c) : Calls Try.prog 22 #[.int .i64 a, .int .i64 b] w fun e w' => e = .returned (.int .i64 c) ∧ w' = w := by
  subst h
  exact hcmp_any a b w

theorem cmpN_ne {a b : Int} (h : a ≠ b) : cmpN a b = sgnL a b := by unfold cmpN; rw [if_pos h]
theorem cmpN_self (a : Int) : cmpN a a = 0 := by simp [cmpN]
theorem sgnL_ne (a b : Int) : (sgnL a b != 0) = true := by unfold sgnL; by_cases h : a < b <;> simp [h]

set_option maxHeartbeats 400000 in
theorem isPhys_any (n : Int) (w : World) :
    Calls Try.prog 20 #[.int .i64 n] w fun e w' => e = .returned (.bool (decide (0 ≤ n ∧ n ≤ 1099511627776))) ∧ w' = w := by
  go_enter Try.func20, Try.ntmps20
  go_wp2
  all_goals (go_ret; exact ⟨by simp <;> omega, rfl⟩)

set_option maxHeartbeats 400000 in
theorem isPeer_any (n : Int) (w : World) :
    Calls Try.prog 21 #[.int .i64 n] w fun e w' => e = .returned (.bool (decide (0 ≤ n ∧ n ≤ 4))) ∧ w' = w := by
  rw [show decide (0 ≤ n ∧ n ≤ 4) = decide (0 ≤ n ∧ n < 5) from decide_eq_decide.2 (by omega)]
  go_enter Try.func21, Try.ntmps21
  go_wp2
  all_goals (go_ret; exact ⟨by simp <;> omega, rfl⟩)

theorem isPhys_of {b : Bool} (n : Int) (w : World) (h : decide (0 ≤ n ∧ n ≤ 1099511627776) = b) :
    Calls Try.prog 20 #[.int .i64 n] w fun e w' => e = .returned (.bool b) ∧ w' = w := by
  subst h
  exact isPhys_any n w

theorem isPeer_of {b : Bool} (n : Int) (w : World) (h : decide (0 ≤ n ∧ n ≤ 4) = b) :
    Calls Try.prog 21 #[.int .i64 n] w fun e w' => e = .returned (.bool b) ∧ w' = w := by
  subst h
  exact isPeer_any n w

set_option maxHeartbeats 1000000 in
theorem hlcCheck : HlcCheck := by
  intro p l q w hs
  obtain ⟨x0, x1, x2⟩ := (BoxS.made (w := w) (p := p) (l := l) (q := q) rfl).cells
  have no : ∀ (h : ¬ (0 ≤ p ∧ p ≤ 1099511627776 ∧ 0 ≤ l ∧ l ≤ 65536 ∧ 0 ≤ q ∧ q ≤ 4)), chkS ⟨p, l, q⟩ = 1 := fun h => by
    unfold chkS
    rw [if_neg (fun k => h (by have := okS_iff.1 k; simp only at this; exact this))]
  by_cases h1 : 0 ≤ p ∧ p ≤ 1099511627776
  · by_cases h2 : 0 ≤ l
    · have d2 : decide (l < 0) = false := by simpa using h2
      by_cases h3 : l ≤ 65536
      · have d3 : decide (65536 < l) = false := by simpa using h3
        by_cases h4 : 0 ≤ q ∧ q ≤ 4
        · rw [show chkS ⟨p, l, q⟩ = 0 from by unfold chkS; rw [if_pos (okS_iff.2 (by simp only; omega))]]
          go_enter Try.func12, Try.ntmps12
          go_wp2_with fail
          refine (isPhys_of p _ (decide_eq_true h1)).mono ?_
          rintro e w1 ⟨rfl, hw1⟩
          subst w1
          go_wp2_with fail
          refine (isPeer_of q _ (decide_eq_true h4)).mono ?_
          rintro e w1 ⟨rfl, hw1⟩
          subst w1
          go_wp2
          go_ret
          exact ⟨rfl, alloc_below _ _⟩
        · rw [no (by omega)]
          go_enter Try.func12, Try.ntmps12
          go_wp2_with fail
          refine (isPhys_of p _ (decide_eq_true h1)).mono ?_
          rintro e w1 ⟨rfl, hw1⟩
          subst w1
          go_wp2_with fail
          refine (isPeer_of q _ (decide_eq_false h4)).mono ?_
          rintro e w1 ⟨rfl, hw1⟩
          subst w1
          go_wp2
          go_ret
          exact ⟨rfl, alloc_below _ _⟩
      · have d3 : decide (65536 < l) = true := by simpa using h3
        rw [no (by omega)]
        go_enter Try.func12, Try.ntmps12
        go_wp2_with fail
        refine (isPhys_of p _ (decide_eq_true h1)).mono ?_
        rintro e w1 ⟨rfl, hw1⟩
        subst w1
        go_wp2
        go_ret
        exact ⟨rfl, alloc_below _ _⟩
    · have d2 : decide (l < 0) = true := by simpa using h2
      rw [no (by omega)]
      go_enter Try.func12, Try.ntmps12
      go_wp2_with fail
      refine (isPhys_of p _ (decide_eq_true h1)).mono ?_
      rintro e w1 ⟨rfl, hw1⟩
      subst w1
      go_wp2
      go_ret
      exact ⟨rfl, alloc_below _ _⟩
  · rw [no (by omega)]
    go_enter Try.func12, Try.ntmps12
    go_wp2_with fail
    refine (isPhys_of p _ (decide_eq_false h1)).mono ?_
    rintro e w1 ⟨rfl, hw1⟩
    subst w1
    go_wp2
    go_ret
    exact ⟨rfl, alloc_below _ _⟩

set_option maxHeartbeats 1000000 in
theorem hlcCompare : HlcCompare := by
  intro p l q p' l' q' w hs hs'
  obtain ⟨x0, x1, x2⟩ := ((BoxS.made (w := w) (p := p) (l := l) (q := q) rfl).later (alloc_below _ (.cells #[.int .i64 p', .int .i64 l', .int .i64 q'] 23))).cells
  obtain ⟨y0, y1, y2⟩ := (BoxS.made (w := w.alloc (.cells #[.int .i64 p, .int .i64 l, .int .i64 q] 23)) (g := w.heap.size + 1) (p := p') (l := l') (q := q') (by simp)).cells
  obtain ⟨c, hc⟩ : ∃ c, cmpS ⟨p, l, q⟩ ⟨p', l', q'⟩ = c := ⟨_, rfl⟩
  rw [hc]
  unfold cmpS at hc
  simp only at hc
  by_cases h1 : p = p'
  · subst h1
    rw [if_neg (by simp)] at hc
    by_cases h2 : l = l'
    · subst h2
      rw [if_neg (by simp)] at hc
      go_enter Try.func13, Try.ntmps13
      go_wp2_with fail
      refine (hcmp_of p p _ (cmpN_self p)).mono ?_
      rintro e w1 ⟨rfl, hw1⟩
      subst w1
      go_wp2_with fail
      refine (hcmp_of l l _ (cmpN_self l)).mono ?_
      rintro e w1 ⟨rfl, hw1⟩
      subst w1
      go_wp2_with fail
      refine (hcmp_of q q' _ hc).mono ?_
      rintro e w1 ⟨rfl, hw1⟩
      subst w1
      go_wp2
      go_ret
      exact ⟨rfl, below_two _ _ _⟩
    · rw [if_pos h2] at hc
      have hn : (c != 0) = true := by rw [← hc]; exact sgnL_ne l l'
      go_enter Try.func13, Try.ntmps13
      go_wp2_with fail
      refine (hcmp_of p p _ (cmpN_self p)).mono ?_
      rintro e w1 ⟨rfl, hw1⟩
      subst w1
      go_wp2_with fail
      refine (hcmp_of l l' _ ((cmpN_ne h2).trans hc)).mono ?_
      rintro e w1 ⟨rfl, hw1⟩
      subst w1
      go_wp2
      go_ret
      exact ⟨rfl, below_two _ _ _⟩
  · rw [if_pos h1] at hc
    have hn : (c != 0) = true := by rw [← hc]; exact sgnL_ne p p'
    go_enter Try.func13, Try.ntmps13
    go_wp2_with fail
    refine (hcmp_of p p' _ ((cmpN_ne h1).trans hc)).mono ?_
    rintro e w1 ⟨rfl, hw1⟩
    subst w1
    go_wp2
    go_ret
    exact ⟨rfl, below_two _ _ _⟩

theorem chkS_of {b : PS} (h : okS b = true) : chkS b = 0 := by simp [chkS, h]
theorem chkS_no {b : PS} (h : okS b = false) : chkS b = 1 := by simp [chkS, h]

theorem hlcCheck_of {c : Int} (p l q : Int) (w : World) (h : S64 ⟨p, l, q⟩) (hc : chkS ⟨p, l, q⟩ = c) : Calls Try.prog 12 #[vS p l q] w fun e w' => e = .returned (.int .i64 c) ∧ Below w.heap.size w w' := by
  subst hc
  exact hlcCheck p l q w h

set_option maxHeartbeats 1000000 in
theorem hlcNext : HlcNext := by
  intro p l q wall peer w hs hwall hpeer
  have HBX : Hid (BoxS ((w.alloc (.cells #[.int .i64 p, .int .i64 l, .int .i64 q] 23)).alloc (.cells #[.int .i64 0, .int .i64 0, .int .i64 0] 23)) w.heap.size p l q) := (BoxS.made (w := w) (p := p) (l := l) (q := q) rfl).later (alloc_below _ _)
  have HBR : Hid (BoxS ((w.alloc (.cells #[.int .i64 p, .int .i64 l, .int .i64 q] 23)).alloc (.cells #[.int .i64 0, .int .i64 0, .int .i64 0] 23)) (w.heap.size + 1) 0 0 0) := BoxS.made (by simp)
  obtain ⟨x0, x1, x2⟩ := HBX.out.cells
  cases hok : okS ⟨p, l, q⟩ with
  | false =>
    rw [nextS_no (by simp [mayN, hok])]
    go_enter Try.func10, Try.ntmps10
    go_wp2_with fail
    refine (hlcCheck_of _ _ _ _ hs (chkS_no hok)).mono ?_
    rintro e w1 ⟨rfl, hb⟩
    obtain ⟨x0, x1, x2⟩ := (HBX.out.later hb).cells
    obtain ⟨y0, y1, y2⟩ := (HBR.out.later hb).cells
    have HB : Hid (Below w.heap.size w w1) := chain (below_two _ _ _) hb
    have HX : Hid (BoxS w1 (w.heap.size + 1) 0 0 0) := HBR.out.later hb
    have f0 := HX.out.frozen
    clear hb
    obtain ⟨c0, c1, c2⟩ := (HX.out.set 0 0 0).cells
    go_wp2
    refine bodyPost_ret (by simp [results, Try.results10, go_sem, c0, c1, c2]; rfl) rfl ?_
    exact ⟨rfl, below_set3 HB.out (by omega)⟩
  | true =>
    by_cases hw : 0 ≤ wall ∧ wall ≤ 1099511627776
    · by_cases hp : 0 ≤ peer ∧ peer ≤ 4
      · have hm : mayN ⟨p, l, q⟩ wall peer = true := mayN_iff.2 ⟨hok, hw, hp⟩
        have hl2 := (okS_iff.1 hok).2.2.1
        have hl3 := (okS_iff.1 hok).2.2.2.1
        simp only at hl2 hl3
        by_cases h1 : p < wall
        · rw [nextS_ahead hm h1]
          clear hm
          go_enter Try.func10, Try.ntmps10
          go_wp2_with fail
          refine (hlcCheck_of _ _ _ _ hs (chkS_of hok)).mono ?_
          rintro e w1 ⟨rfl, hb⟩
          obtain ⟨x0, x1, x2⟩ := (HBX.out.later hb).cells
          obtain ⟨y0, y1, y2⟩ := (HBR.out.later hb).cells
          have HB : Hid (Below w.heap.size w w1) := chain (below_two _ _ _) hb
          have HX : Hid (BoxS w1 (w.heap.size + 1) 0 0 0) := HBR.out.later hb
          have f0 := HX.out.frozen
          clear hb
          go_wp2_with fail
          refine (isPhys_of wall _ (decide_eq_true hw)).mono ?_
          rintro e w2 ⟨rfl, hw2⟩
          subst w2
          go_wp2_with fail
          refine (isPeer_of peer _ (decide_eq_true hp)).mono ?_
          rintro e w2 ⟨rfl, hw2⟩
          subst w2
          obtain ⟨c0, c1, c2⟩ := (HX.out.set wall 0 peer).cells
          go_wp2
          refine bodyPost_ret (by simp [results, Try.results10, go_sem, c0, c1, c2]; rfl) rfl ?_
          exact ⟨rfl, below_set3 HB.out (by omega)⟩
        · have hd : decide (p < wall) = false := by simpa using h1
          by_cases h2 : l = 65536
          · rw [nextS_full hm h1 h2]
            subst h2
            clear hm
            go_enter Try.func10, Try.ntmps10
            go_wp2_with fail
            refine (hlcCheck_of _ _ _ _ hs (chkS_of hok)).mono ?_
            rintro e w1 ⟨rfl, hb⟩
            obtain ⟨x0, x1, x2⟩ := (HBX.out.later hb).cells
            obtain ⟨y0, y1, y2⟩ := (HBR.out.later hb).cells
            have HB : Hid (Below w.heap.size w w1) := chain (below_two _ _ _) hb
            have HX : Hid (BoxS w1 (w.heap.size + 1) 0 0 0) := HBR.out.later hb
            have f0 := HX.out.frozen
            clear hb
            go_wp2_with fail
            refine (isPhys_of wall _ (decide_eq_true hw)).mono ?_
            rintro e w2 ⟨rfl, hw2⟩
            subst w2
            go_wp2_with fail
            refine (isPeer_of peer _ (decide_eq_true hp)).mono ?_
            rintro e w2 ⟨rfl, hw2⟩
            subst w2
            obtain ⟨c0, c1, c2⟩ := (HX.out.set 0 0 0).cells
            go_wp2
            refine bodyPost_ret (by simp [results, Try.results10, go_sem, c0, c1, c2]; rfl) rfl ?_
            exact ⟨rfl, below_set3 HB.out (by omega)⟩
          · rw [nextS_more hm h1 h2]
            have hq : decide (65536 ≤ l) = false := by rw [decide_eq_false_iff_not]; omega
            clear hm
            go_enter Try.func10, Try.ntmps10
            go_wp2_with fail
            refine (hlcCheck_of _ _ _ _ hs (chkS_of hok)).mono ?_
            rintro e w1 ⟨rfl, hb⟩
            obtain ⟨x0, x1, x2⟩ := (HBX.out.later hb).cells
            obtain ⟨y0, y1, y2⟩ := (HBR.out.later hb).cells
            have HB : Hid (Below w.heap.size w w1) := chain (below_two _ _ _) hb
            have HX : Hid (BoxS w1 (w.heap.size + 1) 0 0 0) := HBR.out.later hb
            have f0 := HX.out.frozen
            clear hb
            go_wp2_with fail
            refine (isPhys_of wall _ (decide_eq_true hw)).mono ?_
            rintro e w2 ⟨rfl, hw2⟩
            subst w2
            go_wp2_with fail
            refine (isPeer_of peer _ (decide_eq_true hp)).mono ?_
            rintro e w2 ⟨rfl, hw2⟩
            subst w2
            obtain ⟨c0, c1, c2⟩ := (HX.out.set p (l + 1) peer).cells
            go_wp2
            refine bodyPost_ret (by simp [results, Try.results10, go_sem, c0, c1, c2]; rfl) rfl ?_
            exact ⟨rfl, below_set3 HB.out (by omega)⟩
      · rw [nextS_no (by rw [Bool.eq_false_iff]; exact fun h => hp (mayN_iff.1 h).2.2)]
        go_enter Try.func10, Try.ntmps10
        go_wp2_with fail
        refine (hlcCheck_of _ _ _ _ hs (chkS_of hok)).mono ?_
        rintro e w1 ⟨rfl, hb⟩
        obtain ⟨x0, x1, x2⟩ := (HBX.out.later hb).cells
        obtain ⟨y0, y1, y2⟩ := (HBR.out.later hb).cells
        have HB : Hid (Below w.heap.size w w1) := chain (below_two _ _ _) hb
        have HX : Hid (BoxS w1 (w.heap.size + 1) 0 0 0) := HBR.out.later hb
        have f0 := HX.out.frozen
        clear hb
        go_wp2_with fail
        refine (isPhys_of wall _ (decide_eq_true hw)).mono ?_
        rintro e w2 ⟨rfl, hw2⟩
        subst w2
        go_wp2_with fail
        refine (isPeer_of peer _ (decide_eq_false hp)).mono ?_
        rintro e w2 ⟨rfl, hw2⟩
        subst w2
        obtain ⟨c0, c1, c2⟩ := (HX.out.set 0 0 0).cells
        go_wp2
        refine bodyPost_ret (by simp [results, Try.results10, go_sem, c0, c1, c2]; rfl) rfl ?_
        exact ⟨rfl, below_set3 HB.out (by omega)⟩
    · rw [nextS_no (by rw [Bool.eq_false_iff]; exact fun h => hw (mayN_iff.1 h).2.1)]
      go_enter Try.func10, Try.ntmps10
      go_wp2_with fail
      refine (hlcCheck_of _ _ _ _ hs (chkS_of hok)).mono ?_
      rintro e w1 ⟨rfl, hb⟩
      obtain ⟨x0, x1, x2⟩ := (HBX.out.later hb).cells
      obtain ⟨y0, y1, y2⟩ := (HBR.out.later hb).cells
      have HB : Hid (Below w.heap.size w w1) := chain (below_two _ _ _) hb
      have HX : Hid (BoxS w1 (w.heap.size + 1) 0 0 0) := HBR.out.later hb
      have f0 := HX.out.frozen
      clear hb
      go_wp2_with fail
      refine (isPhys_of wall _ (decide_eq_false hw)).mono ?_
      rintro e w2 ⟨rfl, hw2⟩
      subst w2
      obtain ⟨c0, c1, c2⟩ := (HX.out.set 0 0 0).cells
      go_wp2
      refine bodyPost_ret (by simp [results, Try.results10, go_sem, c0, c1, c2]; rfl) rfl ?_
      exact ⟨rfl, below_set3 HB.out (by omega)⟩

set_option maxHeartbeats 1000000 in
theorem hlcLater : HlcLaterC := by
  intro p l q p' l' q' w hs hs'
  have HA : Hid (BoxS (((w.alloc (.cells #[.int .i64 p, .int .i64 l, .int .i64 q] 23)).alloc (.cells #[.int .i64 p', .int .i64 l', .int .i64 q'] 23)).alloc (.cells #[.int .i64 0, .int .i64 0, .int .i64 0] 23)) w.heap.size p l q) := ((BoxS.made (w := w) (p := p) (l := l) (q := q) rfl).later (alloc_below _ _)).later (alloc_below _ _)
  have HB : Hid (BoxS (((w.alloc (.cells #[.int .i64 p, .int .i64 l, .int .i64 q] 23)).alloc (.cells #[.int .i64 p', .int .i64 l', .int .i64 q'] 23)).alloc (.cells #[.int .i64 0, .int .i64 0, .int .i64 0] 23)) (w.heap.size + 1) p' l' q') := (BoxS.made (by simp)).later (alloc_below _ _)
  have HR : Hid (BoxS (((w.alloc (.cells #[.int .i64 p, .int .i64 l, .int .i64 q] 23)).alloc (.cells #[.int .i64 p', .int .i64 l', .int .i64 q'] 23)).alloc (.cells #[.int .i64 0, .int .i64 0, .int .i64 0] 23)) (w.heap.size + 1 + 1) 0 0 0) := BoxS.made (by simp)
  have C := fun (W : World) => hlcCompare p l q p' l' q' W hs hs'
  have hneg := cmpS_neg ⟨p, l, q⟩ ⟨p', l', q'⟩
  unfold laterS
  by_cases h : 0 < cmpS ⟨p', l', q'⟩ ⟨p, l, q⟩
  · rw [if_pos h]
    have h' : cmpS ⟨p, l, q⟩ ⟨p', l', q'⟩ < 0 := by omega
    clear h hneg
    generalize cmpS ⟨p, l, q⟩ ⟨p', l', q'⟩ = c at *
    obtain ⟨x0, x1, x2⟩ := HA.out.cells
    obtain ⟨y0, y1, y2⟩ := HB.out.cells
    go_enter Try.func16, Try.ntmps16
    go_wp2_with fail
    refine (C _).mono ?_
    rintro e w1 ⟨rfl, hb⟩
    have HB1 : Hid (Below w.heap.size w w1) := chain (below_two _ _ _) (chain (alloc_below _ _) hb)
    have HX : Hid (BoxS w1 (w.heap.size + 1 + 1) 0 0 0) := HR.out.later hb
    obtain ⟨x0, x1, x2⟩ := (HA.out.later hb).cells
    obtain ⟨y0, y1, y2⟩ := (HB.out.later hb).cells
    obtain ⟨r0, r1, r2⟩ := HX.out.cells
    obtain ⟨c0, c1, c2⟩ := (HX.out.set p' l' q').cells
    have f0 := HX.out.frozen
    clear hb
    go_wp2
    refine bodyPost_ret (by simp [results, Try.results16, go_sem, c0, c1, c2]; rfl) rfl ?_
    exact ⟨rfl, below_set3 HB1.out (by omega)⟩
  · rw [if_neg h]
    have h' : ¬ cmpS ⟨p, l, q⟩ ⟨p', l', q'⟩ < 0 := by omega
    clear h hneg
    generalize cmpS ⟨p, l, q⟩ ⟨p', l', q'⟩ = c at *
    have hd : decide (c < 0) = false := by simpa using h'
    obtain ⟨x0, x1, x2⟩ := HA.out.cells
    obtain ⟨y0, y1, y2⟩ := HB.out.cells
    go_enter Try.func16, Try.ntmps16
    go_wp2_with fail
    refine (C _).mono ?_
    rintro e w1 ⟨rfl, hb⟩
    have HB1 : Hid (Below w.heap.size w w1) := chain (below_two _ _ _) (chain (alloc_below _ _) hb)
    have HX : Hid (BoxS w1 (w.heap.size + 1 + 1) 0 0 0) := HR.out.later hb
    obtain ⟨x0, x1, x2⟩ := (HA.out.later hb).cells
    obtain ⟨y0, y1, y2⟩ := (HB.out.later hb).cells
    obtain ⟨r0, r1, r2⟩ := HX.out.cells
    obtain ⟨c0, c1, c2⟩ := (HX.out.set p l q).cells
    have f0 := HX.out.frozen
    clear hb
    go_wp2
    refine bodyPost_ret (by simp [results, Try.results16, go_sem, c0, c1, c2]; rfl) rfl ?_
    exact ⟨rfl, below_set3 HB1.out (by omega)⟩

theorem hlcApi : HlcApi := ⟨hlcCheck, hlcCompare, hlcNext, hlcLater⟩

end Go.Proofs.Ytncidjlobjgibaa
