/-
  Where DotLattice and DotExact have nothing to say.
-/
import Derived.Test.YtmdjmkpalnhkoaaRows
import Derived.Test.YtmdjmkpalnhkoaaDLst
namespace Go.Proofs.Ytmdjmkpalnhkoaa
open Go.RowKit Go.Lib
set_option linter.unusedVariables false

set_option maxRecDepth 100000 in
set_option maxHeartbeats 4000000 in
theorem dlattice_out (a b c : Option Addr) (n m q cap dap eap : Nat) (A B C : List Int) (dp dk : Int) (w : World) (hA : A.length = n) (hB : B.length = m) (hC : C.length = q) (sn : n ≤ 9223372036854775807) (sm : m ≤ 9223372036854775807) (sq : q ≤ 9223372036854775807)
    (ra : RdI .i64 w a A) (rb : RdI .i64 w b B) (rc : RdI .i64 w c C) (h : n ≠ m ∨ n = m ∧ (m ≠ q ∨ m = q ∧ (chkD A ≠ 0 ∨ chkD A = 0 ∧ (chkD B ≠ 0 ∨ chkD B = 0 ∧ chkD C ≠ 0)))) :
    Calls Try.prog 4 #[.slice a n cap, .slice b m dap, .slice c q eap, .agg #[.int .i64 dp, .int .i64 dk]] w fun e w' => e = .returned (.bool true) ∧ Below w.heap.size w w' := by
  have CA := rVector_any a n cap A _ hA sn (ra.later (alloc_below w (.cells #[.int .i64 dp, .int .i64 dk] 24)))
  have CB := rVector_any b m dap B _ hB sm (rb.later (alloc_below w (.cells #[.int .i64 dp, .int .i64 dk] 24)))
  have CC := rVector_any c q eap C _ hC sq (rc.later (alloc_below w (.cells #[.int .i64 dp, .int .i64 dk] 24)))
  clear hA hB hC ra rb rc
  generalize chkD A = ka at *
  generalize chkD B = kb at *
  generalize chkD C = kc at *
  rcases h with h | ⟨rfl, h | ⟨rfl, h | ⟨rfl, h | ⟨rfl, h⟩⟩⟩⟩
  · have h' : ((n : Int) != (m : Int)) = true := by simp; omega
    clear CA CB CC
    go_enter Try.func4, Try.ntmps4
    go_wp2
    go_ret
    exact ⟨rfl, alloc_below _ _⟩
  · have h' : ((n : Int) != (q : Int)) = true := by simp; omega
    clear CA CB CC
    go_enter Try.func4, Try.ntmps4
    go_wp2
    go_ret
    exact ⟨rfl, alloc_below _ _⟩
  · have h' : (ka != 0) = true := by simp [h]
    go_enter Try.func4, Try.ntmps4
    go_wp2_with fail
    refine CA.mono ?_
    rintro e w1 ⟨rfl, hw1⟩
    subst w1
    go_wp2
    go_ret
    exact ⟨rfl, alloc_below _ _⟩
  · have h' : (kb != 0) = true := by simp [h]
    go_enter Try.func4, Try.ntmps4
    go_wp2_with fail
    refine CA.mono ?_
    rintro e w1 ⟨rfl, hw1⟩
    subst w1
    go_wp2_with fail
    refine CB.mono ?_
    rintro e w1 ⟨rfl, hw1⟩
    subst w1
    go_wp2
    go_ret
    exact ⟨rfl, alloc_below _ _⟩
  · have h' : (kc != 0) = true := by simp [h]
    go_enter Try.func4, Try.ntmps4
    go_wp2_with fail
    refine CA.mono ?_
    rintro e w1 ⟨rfl, hw1⟩
    subst w1
    go_wp2_with fail
    refine CB.mono ?_
    rintro e w1 ⟨rfl, hw1⟩
    subst w1
    go_wp2_with fail
    refine CC.mono ?_
    rintro e w1 ⟨rfl, hw1⟩
    subst w1
    go_wp2
    go_ret
    exact ⟨rfl, alloc_below _ _⟩

set_option maxRecDepth 100000 in
set_option maxHeartbeats 4000000 in
theorem dexact_out (a b l : Option Addr) (n m q cap dap eap : Nat) (A B : List Int) (dp dk fp fk : Int) (w : World) (hA : A.length = n) (hB : B.length = m) (sn : n ≤ 9223372036854775807) (sm : m ≤ 9223372036854775807) (hca : n ≤ cap) (hcb : m ≤ dap) (na : a = none → A = [] ∧ cap = 0) (nb : b = none → B = [] ∧ dap = 0)
    (ra : RdI .i64 w a A) (rb : RdI .i64 w b B) (h : (30 < n ∨ 30 < m) ∨ ∀ W : World, Below w.heap.size w W → Calls Try.prog 8 #[.slice l q eap] W fun e w' => e = .returned (.bool true) ∧ w' = W) :
    Calls Try.prog 3 #[.slice a n cap, .slice b m dap, .agg #[.int .i64 dp, .int .i64 dk], .agg #[.int .i64 fp, .int .i64 fk], .slice l q eap] w fun e w' => e = .returned (.bool true) ∧ Below w.heap.size w w' := by
  have HX : Hid (Below w.heap.size w ((w.alloc (.cells #[.int .i64 dp, .int .i64 dk] 24)).alloc (.cells #[.int .i64 fp, .int .i64 fk] 24))) := below_two _ _ _
  have SA : SlI ((w.alloc (.cells #[.int .i64 dp, .int .i64 dk] 24)).alloc (.cells #[.int .i64 fp, .int .i64 fk] 24)) (.slice a n cap) A := ⟨a, cap, by rw [hA], by rw [hA]; exact hca, ra.later HX.out, na⟩
  have SB : SlI ((w.alloc (.cells #[.int .i64 dp, .int .i64 dk] 24)).alloc (.cells #[.int .i64 fp, .int .i64 fk] 24)) (.slice b m dap) B := ⟨b, dap, by rw [hB], by rw [hB]; exact hcb, rb.later HX.out, nb⟩
  have C := heavyD_few (some ⟨w.heap.size + 1 + 1, 0, none⟩) 2 2 [A, B] _ rfl (by omega) (fun v hv => by
    simp only [List.mem_cons, List.not_mem_nil, or_false] at hv
    rcases hv with rfl | rfl
    · rw [hA]; omega
    · rw [hB]; omega) (rows_two _ _ (by simp) SA SB)
  have hh : heavyD [A, B] = (decide (30 < n) || decide (30 < m)) := by simp [heavyD, hA, hB]
  have HW : Hid (Below w.heap.size w (((w.alloc (.cells #[.int .i64 dp, .int .i64 dk] 24)).alloc (.cells #[.int .i64 fp, .int .i64 fk] 24)).alloc (.cells #[.slice a n cap, .slice b m dap] 22))) := chain HX.out (alloc_below _ _)
  rw [hh] at C
  clear SA SB hh hA hB na nb ra rb HX
  by_cases h30 : 30 < n ∨ 30 < m
  · have e : (decide (30 < n) || decide (30 < m)) = true := by simpa using h30
    rw [e] at C
    clear h h30 e
    go_enter Try.func3, Try.ntmps3
    go_wp2_with fail
    refine C.mono ?_
    rintro e w1 ⟨rfl, hw1⟩
    subst w1
    go_wp2
    go_ret
    exact ⟨rfl, HW.out⟩
  · have e : (decide (30 < n) || decide (30 < m)) = false := by simpa using h30
    rw [e] at C
    have C2 := (h.resolve_left h30) _ HW.out
    clear h h30 e
    go_enter Try.func3, Try.ntmps3
    go_wp2_with fail
    refine C.mono ?_
    rintro e w1 ⟨rfl, hw1⟩
    subst w1
    go_wp2_with fail
    refine C2.mono ?_
    rintro e w1 ⟨rfl, hw1⟩
    subst w1
    go_wp2
    go_ret
    exact ⟨rfl, HW.out⟩

end Go.Proofs.Ytmdjmkpalnhkoaa
