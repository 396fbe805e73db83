/-
  raddlelaw15's wakes.
-/
import Derived.Test.YtmolklaammfbmaaRows
import Derived.Test.YtmolklaammfbmaaPHolds
import Derived.Test.YtmolklaammfbmaaRPick
namespace Go.Proofs.Ytmolklaammfbmaa
open Go.RowKit Go.Lib
set_option linter.unusedVariables false

theorem rdI_pw (w : World) (g : Nat) (hg : w.heap.size = g) (x : Int) : RdI .i64 (w.alloc (.cells #[.int .i64 x] 3)) (some ⟨g, 0, none⟩) [x] := fun _ => ⟨g, 0, rfl, fun i hi => by
  subst hg
  obtain rfl : i = 0 := by simpa using hi
  go_simp⟩

theorem pCheck_at (k c o vk vi : Int) (vs : ByteArray) (a : Option Addr) (n cap : Nat) (ts : List Int) (w : World) (hn : ts.length = n) (h4 : n ≤ 65536) (hr : RdI .i64 w a ts) :
    Calls Try.prog 11 #[.agg #[.int .i64 k, .int .i64 c, .int .i64 o, .int .i64 vk, .int .i64 vi, .string vs], .slice a n cap] w fun e w' => e = .returned (.int .i64 (chkP ⟨k, c, o, ⟨vk, vi, vs⟩⟩ ts)) ∧ Below w.heap.size w w' :=
  pCheck_any ⟨k, c, o, ⟨vk, vi, vs⟩⟩ a n cap ts w hn h4 hr

theorem pHolds_at (k c o vk vi : Int) (vs : ByteArray) (a : Option Addr) (n cap : Nat) (R : List PV) (w : World) (hn : R.length = n) (h4 : n ≤ 65536) (hr : RdV w a R) :
    Calls Try.prog 13 #[.agg #[.int .i64 k, .int .i64 c, .int .i64 o, .int .i64 vk, .int .i64 vi, .string vs], .slice a n cap] w fun e w' => e = .returned (.bool (holdsP ⟨k, c, o, ⟨vk, vi, vs⟩⟩ R)) ∧ Below w.heap.size w w' :=
  pHolds_any ⟨k, c, o, ⟨vk, vi, vs⟩⟩ a n cap R w hn h4 hr

set_option maxHeartbeats 1000000 in
set_option maxRecDepth 100000 in
theorem predwakes_any (w : World) :
    Calls Try.prog 17 #[] w fun e w' => e = .returned (.bool true) ∧ Below w.heap.size w w' := by
  have E1 : Hid (chkP ⟨2, 0, 0, ⟨3, 5, ⟨#[]⟩⟩⟩ [3] = 0) := show _ = _ by decide
  have E2 : Hid (holdsP ⟨2, 0, 0, ⟨3, 5, ⟨#[]⟩⟩⟩ [⟨3, 4, ⟨#[]⟩⟩] = true) := show _ = _ by decide
  have E3 : Hid (holdsP ⟨2, 0, 0, ⟨3, 5, ⟨#[]⟩⟩⟩ [⟨3, 5, ⟨#[]⟩⟩] = false) := by
    show _ = _
    rw [holdsP_2 (by decide) rfl]
    show decide (cmpV ⟨3, 5, ⟨#[]⟩⟩ ⟨3, 5, ⟨#[]⟩⟩ < 0) = false
    rw [cmpV_self]
    rfl
  go_enter Try.func17, Try.ntmps17
  go_wp2_with fail
  refine (pCheck_at 2 0 0 3 5 ⟨#[]⟩ (some ⟨w.heap.size + 1, 0, none⟩) 1 1 [3] _ rfl (by omega) (rdI_pw _ _ (by simp) 3)).mono ?_
  rintro e w1 ⟨rfl, hb⟩
  rw [E1.out]
  have hb' := chain (alloc_below (w.alloc (.cells #[.int .i64 2, .int .i64 0, .int .i64 0, .int .i64 3, .int .i64 5, .string ⟨#[]⟩] 25)) (.cells #[.int .i64 3] 3)) hb
  obtain ⟨c0, c1, c2, c3, c4, c5⟩ := box6 hb'
  have HB : Hid (Below w.heap.size w w1) := chain (alloc_below _ _) hb'
  clear hb hb'
  go_wp2_with fail
  refine (pHolds_at 2 0 0 3 5 ⟨#[]⟩ (some ⟨w1.heap.size, 0, none⟩) 1 1 [⟨3, 4, ⟨#[]⟩⟩] _ rfl (by omega) (rdV_at w1 _ rfl 3 4 ⟨#[]⟩)).mono ?_
  rintro e w2 ⟨rfl, hb⟩
  rw [E2.out]
  have hb' := chain (alloc_below w1 (.cells #[.int .i64 3, .int .i64 4, .string ⟨#[]⟩] 23)) hb
  replace c0 := cell_later hb' c0
  replace c1 := cell_later hb' c1
  replace c2 := cell_later hb' c2
  replace c3 := cell_later hb' c3
  replace c4 := cell_later hb' c4
  replace c5 := cell_later hb' c5
  replace HB : Hid (Below w.heap.size w w2) := chain HB.out hb'
  clear hb hb'
  go_wp2_with fail
  refine (pHolds_at 2 0 0 3 5 ⟨#[]⟩ (some ⟨w2.heap.size, 0, none⟩) 1 1 [⟨3, 5, ⟨#[]⟩⟩] _ rfl (by omega) (rdV_at w2 _ rfl 3 5 ⟨#[]⟩)).mono ?_
  rintro e w3 ⟨rfl, hb⟩
  rw [E3.out]
  have hb' := chain (alloc_below w2 (.cells #[.int .i64 3, .int .i64 5, .string ⟨#[]⟩] 23)) hb
  go_wp2
  go_ret
  exact ⟨rfl, chain HB.out hb'⟩

end Go.Proofs.Ytmolklaammfbmaa
