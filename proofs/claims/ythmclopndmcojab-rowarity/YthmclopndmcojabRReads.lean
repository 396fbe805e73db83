/-
  What raddlelaw04's wakes answers; RowReads' walk.
-/
import Derived.Test.YthmclopndmcojabRows
import Derived.Test.YthmclopndmcojabRApi
import Derived.Test.YthmclopndmcojabKeep
import Derived.Test.YthmclopndmcojabGrow
import Derived.Test.YthmclopndmcojabFrame
import Derived.Handy
namespace Go.Proofs.Ythmclopndmcojab
open Go.RowKit Go.Lib
set_option linter.unusedVariables false

/-- The row of one null. -/
def oneN : List PV := [⟨1, 0, ⟨#[]⟩⟩]

theorem chkN : chkR oneN = 0 := rfl
theorem bytesN : (bytesR oneN).length = 2 := rfl
theorem readN : readR (bytesR oneN) 0 = (oneN, 2, 0) := by
  have := readR_bytes (vs := oneN) (l := bytesR oneN) (r := []) (p := 0) chkN (by simp)
  rw [bytesN] at this
  exact this

set_option maxHeartbeats 400000 in
theorem rwakes_of (RB : RowBytesC) (RR : RowRead) (RC : RowCompare) (w : World) :
    Calls Try.prog 9 #[] w fun e w' => e = .returned (.bool true) ∧ Below w.heap.size w w' := by
  have HV : Hid (RdV (w.alloc (.cells #[.int .i64 1, .int .i64 0, .string ⟨#[]⟩] 23)) (some ⟨w.heap.size, 0, none⟩) oneN) := rdV_at w _ rfl 1 0 ⟨#[]⟩
  go_enter Try.func9, Try.ntmps9
  go_wp2_with fail
  refine (RB (some ⟨w.heap.size, 0, none⟩) 1 1 oneN _ rfl (by omega) HV.out).mono ?_
  rintro e w1 ⟨a, n, cap, rfl, hn, hs, hc, hr, hnl, hb1⟩
  rw [putR_ok chkN] at hn hr hnl ⊢
  simp only at hn hr hnl ⊢
  rw [bytesN] at hn
  subst hn
  replace HV : Hid (RdV w1 (some ⟨w.heap.size, 0, none⟩) oneN) := HV.out.later hb1
  have HB : Hid (Below w.heap.size w w1) := chain (alloc_below _ _) hb1
  clear hb1 hnl
  go_wp2_with fail
  refine (RR a 2 cap 0 _ _ bytesN (by omega) hc hr).mono ?_
  rintro e w2 ⟨a2, n2, cap2, rfl, hn2, _, hc2, _, hr2, hnl2, hb2⟩
  rw [readN] at hn2 ⊢
  simp only [oneN, List.length_cons, List.length_nil] at hn2 ⊢
  subst hn2
  replace HV : Hid (RdV w2 (some ⟨w.heap.size, 0, none⟩) oneN) := HV.out.later hb2
  replace HB : Hid (Below w.heap.size w w2) := chain HB.out hb2
  clear hb2 hnl2 hr2
  go_wp2_with fail
  refine (RC none (some ⟨w.heap.size, 0, none⟩) 0 1 0 1 [] oneN _ rfl rfl (by omega) (by omega) (RdV.nil _ _) HV.out).mono ?_
  rintro e w3 ⟨rfl, hb3⟩
  rw [show cmpR [] oneN = -1 from rfl]
  go_wp2
  go_ret
  exact ⟨rfl, chain HB.out hb3⟩

end Go.Proofs.Ythmclopndmcojab
