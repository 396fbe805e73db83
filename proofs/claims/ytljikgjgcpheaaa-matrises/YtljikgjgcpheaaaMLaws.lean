/-
  What raddlelaw11's wakes answers.
-/
import Derived.Test.YtljikgjgcpheaaaRows
import Derived.Test.YtljikgjgcpheaaaMCode
import Derived.Test.YtljikgjgcpheaaaDLaws
import Derived.Test.YtljikgjgcpheaaaDSteps
import Derived.Test.YtljikgjgcpheaaaDLst
namespace Go.Proofs.Ytljikgjgcpheaaa
open Go.RowKit Go.Lib
set_option linter.unusedVariables false

theorem matW : MatR 2 (List.replicate 2 (List.replicate 2 0)) := MatR.zero (by omega) (by omega)

theorem matW2 : MatR 2 [[0, 0], [1, 2]] := by
  have h : matD [[0, 0], [1, 2]] = 0 := by decide
  exact matD_ok.1 h

set_option maxRecDepth 100000 in
set_option maxHeartbeats 2000000 in
theorem mwakes_any (w : World) :
    Calls Try.prog 17 #[] w fun e w' => e = .returned (.bool true) ∧ Below w.heap.size w w' := by
  go_enter Try.func17, Try.ntmps17
  go_wp2_with fail
  refine (mNew_yes 2 w (by omega) (by omega)).mono ?_
  rintro e w1 ⟨g, rfl, hr1, hb1⟩
  have HA : Hid (RdI .i64 ((w1.alloc (.cells #[.int .i64 3, .int .i64 2] 3)).alloc (.cells #[.int .i64 1, .int .i64 2] 3)) (some ⟨w1.heap.size, 0, none⟩) [3, 2]) := (rdI_two w1 _ rfl 3 2).later (alloc_below _ _)
  have HB : Hid (RdI .i64 ((w1.alloc (.cells #[.int .i64 3, .int .i64 2] 3)).alloc (.cells #[.int .i64 1, .int .i64 2] 3)) (some ⟨w1.heap.size + 1, 0, none⟩) [1, 2]) := rdI_two _ _ (by simp) 1 2
  have HM : Hid (RdII ((w1.alloc (.cells #[.int .i64 3, .int .i64 2] 3)).alloc (.cells #[.int .i64 1, .int .i64 2] 3)) (some ⟨g, 0, none⟩) (List.replicate 2 (List.replicate 2 0))) := (hr1.later (alloc_below _ _)).later (alloc_below _ _)
  have HX : Hid (Below w.heap.size w w1) := hb1
  clear hr1 hb1
  go_wp2_with fail
  refine (mLearn_ok g 0 _ _ 2 2 2 2 1 _ [3, 2] [1, 2] _ matW HM.out rfl rfl (by decide) (by decide) HA.out HB.out (by omega) (by decide) (by decide)).mono ?_
  rintro e w2 ⟨g2, rfl, hr2, hb2⟩
  rw [show (if ([3, 2] : List Int)[1] < ([1, 2] : List Int)[1] then List.replicate 2 (List.replicate 2 0) else learnD (List.replicate 2 (List.replicate 2 0)) 1 [1, 2]) = [[0, 0], [1, 2]] from by decide] at hr2
  rw [show decide (([1, 2] : List Int)[1] ≤ ([3, 2] : List Int)[1]) = true from by decide]
  have HR : Hid (RdII w2 (some ⟨g2, 0, none⟩) [[0, 0], [1, 2]]) := hr2
  replace HX : Hid (Below w.heap.size w w2) := chain HX.out (chain (below_two _ _ _) hb2)
  clear hr2 hb2 HA HB HM
  go_wp2_with fail
  refine (mFront_ok _ 2 2 _ _ matW2 (by omega) HR.out).mono ?_
  rintro e w3 ⟨a3, n3, c3, rfl, hn3, _, hc3, _, hr3, _, hb3⟩
  rw [show frontD [[0, 0], [1, 2]] = [0, 0] from by decide] at hn3 hr3
  simp only [List.length_cons, List.length_nil] at hn3 hr3 ⊢
  subst hn3
  replace HX : Hid (Below w.heap.size w w3) := chain HX.out hb3
  have h9 := HR.out.later hb3
  obtain ⟨b', off', e', hc⟩ := h9 (by decide)
  simp only [Option.some.injEq, Addr.mk.injEq, and_true] at e'
  obtain ⟨rfl, rfl⟩ := e'
  obtain ⟨u, x0, a2, cap2, rfl, hc2, hr2, hn2⟩ := hc 1 (by decide)
  simp only [List.getElem_cons_succ, List.getElem_cons_zero, List.length_cons, List.length_nil, Nat.zero_add, Nat.reduceAdd] at x0 hr2 hc2 hn2
  have HC : Hid (RdI .i64 (w3.alloc (.cells #[.int .i64 1, .int .i64 2] 3)) (some ⟨w3.heap.size, 0, none⟩) [1, 2]) := rdI_two w3 _ rfl 1 2
  have HR2 : Hid (RdI .i64 (w3.alloc (.cells #[.int .i64 1, .int .i64 2] 3)) a2 [1, 2]) := hr2.later (alloc_below _ _)
  have HF : Hid (RdI .i64 (w3.alloc (.cells #[.int .i64 1, .int .i64 2] 3)) a3 [0, 0]) := hr3.later (alloc_below _ _)
  clear h9 hc hr2 hr3 hn2 hb3 HR
  go_wp2_with fail
  refine (keepInts_any a2 (some ⟨w3.heap.size, 0, none⟩) 2 2 cap2 2 [1, 2] [1, 2] _ rfl rfl (by omega) (by omega) HR2.out HC.out).mono ?_
  rintro e w4 ⟨rfl, hb4⟩
  rw [decide_eq_true rfl]
  replace HX : Hid (Below w.heap.size w w4) := chain HX.out (chain (alloc_below _ _) hb4)
  have HF2 : Hid (RdI .i64 (w4.alloc (.cells #[.int .i64 0, .int .i64 0] 3)) a3 [0, 0]) := (HF.out.later hb4).later (alloc_below _ _)
  have HZ : Hid (RdI .i64 (w4.alloc (.cells #[.int .i64 0, .int .i64 0] 3)) (some ⟨w4.heap.size, 0, none⟩) [0, 0]) := rdI_two w4 _ rfl 0 0
  clear hb4 HR2 HC HF
  go_wp2_with fail
  refine (keepInts_any a3 (some ⟨w4.heap.size, 0, none⟩) 2 2 c3 2 [0, 0] [0, 0] _ rfl rfl (by omega) (by omega) HF2.out HZ.out).mono ?_
  rintro e w5 ⟨rfl, hb5⟩
  rw [decide_eq_true rfl]
  go_wp2
  go_ret
  exact ⟨rfl, chain HX.out (chain (alloc_below _ _) hb5)⟩

end Go.Proofs.Ytljikgjgcpheaaa
