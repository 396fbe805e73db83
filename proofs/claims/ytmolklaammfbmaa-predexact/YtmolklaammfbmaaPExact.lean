/-
  PredExact's walk: what the law answers, whatever its predicate, types and row.
-/
import Derived.Test.YtmolklaammfbmaaRows
import Derived.Test.YtmolklaammfbmaaPWakes
import Derived.Test.YtmolklaammfbmaaPRefC
import Derived.Test.YtmolklaammfbmaaPRefH
import Derived.Test.YtmolklaammfbmaaPArg
import Derived.Test.YtmolklaammfbmaaRKeep
import Derived.Test.YtmolklaammfbmaaRFrame
namespace Go.Proofs.Ytmolklaammfbmaa
open Go.RowKit Go.Lib
set_option linter.unusedVariables false

theorem rPred_at (k c o vk vi : Int) (vs : ByteArray) (a : Option Addr) (n cap : Nat) (ts : List Int) (w : World) (hn : ts.length = n) (h4 : n ≤ 65536) (hr : RdI .i64 w a ts) :
    Calls Try.prog 12 #[.agg #[.int .i64 k, .int .i64 c, .int .i64 o, .int .i64 vk, .int .i64 vi, .string vs], .slice a n cap] w fun e w' => e = .returned (.int .i64 (chkP ⟨k, c, o, ⟨vk, vi, vs⟩⟩ ts)) ∧ Below w.heap.size w w' :=
  rPred_any ⟨k, c, o, ⟨vk, vi, vs⟩⟩ a n cap ts w hn h4 hr

theorem rHolds_at (k c o vk vi : Int) (vs : ByteArray) (a : Option Addr) (n cap : Nat) (R : List PV) (w : World) (hn : R.length = n) (h4 : n ≤ 65536) (hr : RdV w a R) :
    Calls Try.prog 14 #[.agg #[.int .i64 k, .int .i64 c, .int .i64 o, .int .i64 vk, .int .i64 vi, .string vs], .slice a n cap] w fun e w' => e = .returned (.bool (holdsP ⟨k, c, o, ⟨vk, vi, vs⟩⟩ R)) ∧ Below w.heap.size w w' :=
  rHolds_any ⟨k, c, o, ⟨vk, vi, vs⟩⟩ a n cap R w hn h4 hr

set_option maxHeartbeats 4000000 in
set_option maxRecDepth 100000 in
theorem pexact_walk (x : PPr) (a b : Option Addr) (m n cap dap : Nat) (zs : List Int) (R : List PV) (w : World) (hz : IsInts .i64 w a m cap zs) (hv : IsVals w b n dap R) :
    Calls Try.prog 3 #[.agg (cellsP x), .slice a m cap, .slice b n dap] w fun e w' => e = .returned (.bool true) ∧ Below w.heap.size w w' := by
  obtain ⟨k, c, o, vk, vi, vs⟩ := x
  simp only [cellsP]
  obtain ⟨ts, hm0, hmc, hrI, hnI, _⟩ := hz.ints
  have hms := hz.small
  have hns := hv.small
  obtain ⟨hn0, hnc, hrV, hnV⟩ := hv.vals
  have HM : Hid (ts.length = m) := hm0
  have HN : Hid (R.length = n) := hn0
  have HI : Hid (RdI .i64 w a ts) := hrI
  have HV : Hid (RdV w b R) := hrV
  have HNI : Hid (a = none → ts = [] ∧ cap = 0) := hnI
  have HNV : Hid (b = none → R = [] ∧ dap = 0) := hnV
  have CH : ∀ W, Below w.heap.size w W → Calls Try.prog 8 #[.slice b n dap] W fun e w' => e = .returned (.bool (decide (40 < n) || heavyV R)) ∧ w' = W := by
    intro W hb
    by_cases h40 : 40 < n
    · simpa [h40] using heavy_long b n dap W h40 hns
    · simpa [h40] using heavy_few b n dap R W hn0 (by omega) (hrV.later hb)
  clear hm0 hrI hnI hn0 hrV hnV hz hv
  have BX := alloc_below w (.cells #[.int .i64 k, .int .i64 c, .int .i64 o, .int .i64 vk, .int .i64 vi, .string vs] 25)
  go_enter Try.func3, Try.ntmps3
  go_wp2_with fail
  refine (long_any (w.heap.size + 1) 1 1 [vs] _ rfl (by omega) (fun i hi => ?_)).mono ?_
  · obtain rfl : i = 0 := by simpa using hi
    go_simp
  rintro e w1 ⟨rfl, rfl⟩
  have HB : Hid (Below w.heap.size w ((w.alloc (.cells #[.int .i64 k, .int .i64 c, .int .i64 o, .int .i64 vk, .int .i64 vi, .string vs] 25)).alloc (.cells #[.int .i64 vk, .int .i64 vi, .string vs] 23))) := chain BX (alloc_below _ _)
  obtain ⟨c0, c1, c2, c3, c4, c5⟩ := box6 (alloc_below (w.alloc (.cells #[.int .i64 k, .int .i64 c, .int .i64 o, .int .i64 vk, .int .i64 vi, .string vs] 25)) (.cells #[.int .i64 vk, .int .i64 vi, .string vs] 23))
  generalize hW1 : ((w.alloc (.cells #[.int .i64 k, .int .i64 c, .int .i64 o, .int .i64 vk, .int .i64 vi, .string vs] 25)).alloc (.cells #[.int .i64 vk, .int .i64 vi, .string vs] 23)) = w1 at *
  clear hW1 BX
  cases hl : longT [vs] with
  | true =>
    go_wp2
    go_ret
    exact ⟨rfl, HB.out⟩
  | false =>
    clear hl
    by_cases hm40 : 40 < m
    · go_wp2
      go_ret
      exact ⟨rfl, HB.out⟩
    · have CH' := CH w1 HB.out
      cases hh : (decide (40 < n) || heavyV R) with
      | true =>
        rw [hh] at CH'
        go_wp2_with fail
        refine CH'.mono ?_
        rintro e w2 ⟨rfl, rfl⟩
        go_wp2
        go_ret
        exact ⟨rfl, HB.out⟩
      | false =>
        rw [hh] at CH'
        have hn40 : n ≤ 40 := by
          simp at hh
          omega
        clear hh
        go_wp2_with fail
        refine CH'.mono ?_
        rintro e w2 ⟨rfl, rfl⟩
        clear CH CH'
        go_wp2_with fail
        refine (twinInts_any a m cap ts _ HM.out (by omega) HNI.out (HI.out.later HB.out)).mono ?_
        rintro e w3 ⟨a', cap', rfl, -, -, -, hI', hb⟩
        have HS : w3.cell? ⟨w.heap.size, 0, none⟩ = some (.int .i64 k) ∧ w3.cell? ⟨w.heap.size, 1, none⟩ = some (.int .i64 c) ∧ w3.cell? ⟨w.heap.size, 2, none⟩ = some (.int .i64 o) ∧ w3.cell? ⟨w.heap.size, 3, none⟩ = some (.int .i64 vk) ∧ w3.cell? ⟨w.heap.size, 4, none⟩ = some (.int .i64 vi) ∧ w3.cell? ⟨w.heap.size, 5, none⟩ = some (.string vs) ∧ Hid (Below w.heap.size w w3) := keepP6 hb ⟨c0, c1, c2, c3, c4, c5, HB⟩
        have HI' : Hid (RdI .i64 w3 a' ts) := hI'
        clear c0 c1 c2 c3 c4 c5 HB hb hI'
        obtain ⟨c0, c1, c2, c3, c4, c5, HB⟩ := HS
        go_wp2_with fail
        refine (twinRow_any b n dap R _ HN.out (by omega) HNV.out (HV.out.later HB.out)).mono ?_
        rintro e w4 ⟨b', dap', rfl, -, -, -, hV', hb⟩
        have HS : w4.cell? ⟨w.heap.size, 0, none⟩ = some (.int .i64 k) ∧ w4.cell? ⟨w.heap.size, 1, none⟩ = some (.int .i64 c) ∧ w4.cell? ⟨w.heap.size, 2, none⟩ = some (.int .i64 o) ∧ w4.cell? ⟨w.heap.size, 3, none⟩ = some (.int .i64 vk) ∧ w4.cell? ⟨w.heap.size, 4, none⟩ = some (.int .i64 vi) ∧ w4.cell? ⟨w.heap.size, 5, none⟩ = some (.string vs) ∧ Hid (Below w.heap.size w w4) := keepP6 hb ⟨c0, c1, c2, c3, c4, c5, HB⟩
        have HV' : Hid (RdV w4 b' R) := hV'
        replace HI' : Hid (RdI .i64 w4 a' ts) := HI'.out.later hb
        clear hb hV' c0 c1 c2 c3 c4 c5 HB
        obtain ⟨c0, c1, c2, c3, c4, c5, HB⟩ := HS
        have hm4 : m ≤ 65536 := by omega
        have hn4 : n ≤ 65536 := by omega
        have CA : ∀ V, Below w4.heap.size w4 V → Calls Try.prog 11 #[.agg #[.int .i64 k, .int .i64 c, .int .i64 o, .int .i64 vk, .int .i64 vi, .string vs], .slice a' m cap'] V fun e w' => e = .returned (.int .i64 (chkP ⟨k, c, o, ⟨vk, vi, vs⟩⟩ ts)) ∧ Below V.heap.size V w' := fun V hb => pCheck_at k c o vk vi vs a' m cap' ts V HM.out hm4 (HI'.out.later hb)
        have CB : ∀ V, Below w4.heap.size w4 V → Calls Try.prog 12 #[.agg #[.int .i64 k, .int .i64 c, .int .i64 o, .int .i64 vk, .int .i64 vi, .string vs], .slice a m cap] V fun e w' => e = .returned (.int .i64 (chkP ⟨k, c, o, ⟨vk, vi, vs⟩⟩ ts)) ∧ Below V.heap.size V w' := fun V hb => rPred_at k c o vk vi vs a m cap ts V HM.out hm4 (HI.out.later (chain HB.out hb))
        have CC : ∀ V, Below w4.heap.size w4 V → Calls Try.prog 13 #[.agg #[.int .i64 k, .int .i64 c, .int .i64 o, .int .i64 vk, .int .i64 vi, .string vs], .slice b' n dap'] V fun e w' => e = .returned (.bool (holdsP ⟨k, c, o, ⟨vk, vi, vs⟩⟩ R)) ∧ Below V.heap.size V w' := fun V hb => pHolds_at k c o vk vi vs b' n dap' R V HN.out hn4 (HV'.out.later hb)
        have CD : ∀ V, Below w4.heap.size w4 V → Calls Try.prog 14 #[.agg #[.int .i64 k, .int .i64 c, .int .i64 o, .int .i64 vk, .int .i64 vi, .string vs], .slice b n dap] V fun e w' => e = .returned (.bool (holdsP ⟨k, c, o, ⟨vk, vi, vs⟩⟩ R)) ∧ Below V.heap.size V w' := fun V hb => rHolds_at k c o vk vi vs b n dap R V HN.out hn4 (HV.out.later (chain HB.out hb))
        have CE : ∀ V, Below w4.heap.size w4 V → Calls Try.prog 15 #[.slice a' m cap', .slice a m cap] V fun e w' => e = .returned (.bool true) ∧ Below V.heap.size V w' := fun V hb => by
          have := keepInts_any a' a m m cap' cap ts ts V HM.out HM.out hm4 hm4 (HI'.out.later hb) (HI.out.later (chain HB.out hb))
          rw [decide_eq_true rfl] at this
          exact this
        have CF : ∀ V, Below w4.heap.size w4 V → Calls Try.prog 16 #[.slice b' n dap', .slice b n dap] V fun e w' => e = .returned (.bool true) ∧ Below V.heap.size V w' := fun V hb => by
          have := keepRow_any b' b n n dap' dap R R V HN.out HN.out hn4 hn4 (HV'.out.later hb) (HV.out.later (chain HB.out hb))
          rw [(sameVs_iff R R).2 rfl] at this
          exact this
        have CG := predwakes_any
        generalize chkP ⟨k, c, o, ⟨vk, vi, vs⟩⟩ ts = z at *
        generalize holdsP ⟨k, c, o, ⟨vk, vi, vs⟩⟩ R = q at *
        clear HI HV HI' HV' HNI HNV
        have HC : Hid (∀ W, Below w4.heap.size w4 W → Below w.heap.size w W) := fun W hb => chain HB.out hb
        clear HB
        go_upto_region 4 with fail
        have HS : w4.drew.cell? ⟨w.heap.size, 0, none⟩ = some (.int .i64 k) ∧ w4.drew.cell? ⟨w.heap.size, 1, none⟩ = some (.int .i64 c) ∧ w4.drew.cell? ⟨w.heap.size, 2, none⟩ = some (.int .i64 o) ∧ w4.drew.cell? ⟨w.heap.size, 3, none⟩ = some (.int .i64 vk) ∧ w4.drew.cell? ⟨w.heap.size, 4, none⟩ = some (.int .i64 vi) ∧ w4.drew.cell? ⟨w.heap.size, 5, none⟩ = some (.string vs) ∧ Hid (Below w4.heap.size w4 w4.drew) := keepP6 (Below.refl _ _).drew ⟨c0, c1, c2, c3, c4, c5, Below.refl _ _⟩
        clear c0 c1 c2 c3 c4 c5
        refine wp_region_held_drew (S := (fun w' => w'.cell? ⟨w.heap.size, 0, none⟩ = some (.int .i64 k) ∧ w'.cell? ⟨w.heap.size, 1, none⟩ = some (.int .i64 c) ∧ w'.cell? ⟨w.heap.size, 2, none⟩ = some (.int .i64 o) ∧ w'.cell? ⟨w.heap.size, 3, none⟩ = some (.int .i64 vk) ∧ w'.cell? ⟨w.heap.size, 4, none⟩ = some (.int .i64 vi) ∧ w'.cell? ⟨w.heap.size, 5, none⟩ = some (.string vs) ∧ Hid (Below w4.heap.size w4 w'))) (by kernel_rfl) HS (fun hHeld => ?_)
        refine heldTake (v := ?_) 0 26 rfl rfl (by kernel_rfl) (by kernel_rfl) (by kernel_rfl) (fun _ _ _ h => h) (by rfl) (fun w hSw => ?_) (by assumption) ?_
        rotate_left
        · (try dsimp only at hSw); first | (go_simp; done) | (go_simp; with_reducible rfl)
        simp only [List.setIfInBounds_toArray, List.set_cons_zero, List.set_cons_succ]
        refine heldTake (v := ?_) 1 27 rfl rfl (by kernel_rfl) (by kernel_rfl) (by kernel_rfl) (fun _ _ _ h => h) (by rfl) (fun w hSw => ?_) (by assumption) ?_
        rotate_left
        · (try dsimp only at hSw); first | (go_simp; done) | (go_simp; with_reducible rfl)
        simp only [List.setIfInBounds_toArray, List.set_cons_zero, List.set_cons_succ]
        refine heldTake (v := ?_) 3 29 rfl rfl (by kernel_rfl) (by kernel_rfl) (by kernel_rfl) (fun _ _ _ h => h) (by rfl) (fun w hSw => ?_) (by assumption) ?_
        rotate_left
        · (try dsimp only at hSw); first | (go_simp; done) | (go_simp; with_reducible rfl)
        simp only [List.setIfInBounds_toArray, List.set_cons_zero, List.set_cons_succ]
        refine heldTake (v := ?_) 4 30 rfl rfl (by kernel_rfl) (by kernel_rfl) (by kernel_rfl) (fun _ _ _ h => h) (by rfl) (fun w hSw => ?_) (by assumption) ?_
        rotate_left
        · (try dsimp only at hSw); first | (go_simp; done) | (go_simp; with_reducible rfl)
        simp only [List.setIfInBounds_toArray, List.set_cons_zero, List.set_cons_succ]
        refine heldOne 2 rfl (by kernel_rfl) (by rfl) (fun K2 hK => ?_)
        go_simp
        refine (CA _ hHeld.2.2.2.2.2.2.out).mono ?_
        rintro e wz ⟨rfl, hb⟩
        simp only []
        refine hK.out _ _ ?_ (fun hHeld => ?_)
        · first | exact keepP6 (by assumption) (by assumption) | exact keepP6 (Below.refl _ _).drew (by assumption)
        clear hK K2
        try simp only [List.setIfInBounds_toArray, List.set_cons_zero, List.set_cons_succ]
        refine heldOne 5 rfl (by kernel_rfl) (by rfl) (fun K2 hK => ?_)
        go_simp
        refine (CB _ hHeld.2.2.2.2.2.2.out).mono ?_
        rintro e wz ⟨rfl, hb⟩
        simp only []
        refine hK.out _ _ ?_ (fun hHeld => ?_)
        · first | exact keepP6 (by assumption) (by assumption) | exact keepP6 (Below.refl _ _).drew (by assumption)
        clear hK K2
        try simp only [List.setIfInBounds_toArray, List.set_cons_zero, List.set_cons_succ]
        refine heldTake (v := ?_) 6 32 rfl rfl (by kernel_rfl) (by kernel_rfl) (by kernel_rfl) (fun _ _ _ h => h) (by rfl) (fun w hSw => ?_) (by assumption) ?_
        rotate_left
        · (try dsimp only at hSw); first | (go_simp; done) | (go_simp; with_reducible rfl)
        simp only [List.setIfInBounds_toArray, List.set_cons_zero, List.set_cons_succ]
        refine heldTake (v := ?_) 7 33 rfl rfl (by kernel_rfl) (by kernel_rfl) (by kernel_rfl) (fun _ _ _ h => h) (by rfl) (fun w hSw => ?_) (by assumption) ?_
        rotate_left
        · (try dsimp only at hSw); first | (go_simp; done) | (go_simp; with_reducible rfl)
        simp only [List.setIfInBounds_toArray, List.set_cons_zero, List.set_cons_succ]
        refine heldTake (v := ?_) 8 34 rfl rfl (by kernel_rfl) (by kernel_rfl) (by kernel_rfl) (fun _ _ _ h => h) (by rfl) (fun w hSw => ?_) (by assumption) ?_
        rotate_left
        · (try dsimp only at hSw); first | (go_simp; done) | (go_simp; with_reducible rfl)
        simp only [List.setIfInBounds_toArray, List.set_cons_zero, List.set_cons_succ]
        refine heldTake (v := ?_) 9 35 rfl rfl (by kernel_rfl) (by kernel_rfl) (by kernel_rfl) (fun _ _ _ h => h) (by rfl) (fun w hSw => ?_) (by assumption) ?_
        rotate_left
        · (try dsimp only at hSw); first | (go_simp; done) | (go_simp; with_reducible rfl)
        simp only [List.setIfInBounds_toArray, List.set_cons_zero, List.set_cons_succ]
        refine heldTake (v := ?_) 11 37 rfl rfl (by kernel_rfl) (by kernel_rfl) (by kernel_rfl) (fun _ _ _ h => h) (by rfl) (fun w hSw => ?_) (by assumption) ?_
        rotate_left
        · (try dsimp only at hSw); first | (go_simp; done) | (go_simp; with_reducible rfl)
        simp only [List.setIfInBounds_toArray, List.set_cons_zero, List.set_cons_succ]
        refine heldTake (v := ?_) 12 38 rfl rfl (by kernel_rfl) (by kernel_rfl) (by kernel_rfl) (fun _ _ _ h => h) (by rfl) (fun w hSw => ?_) (by assumption) ?_
        rotate_left
        · (try dsimp only at hSw); first | (go_simp; done) | (go_simp; with_reducible rfl)
        simp only [List.setIfInBounds_toArray, List.set_cons_zero, List.set_cons_succ]
        refine heldOne 10 rfl (by kernel_rfl) (by rfl) (fun K2 hK => ?_)
        go_simp
        refine (CC _ hHeld.2.2.2.2.2.2.out).mono ?_
        rintro e wz ⟨rfl, hb⟩
        simp only []
        refine hK.out _ _ ?_ (fun hHeld => ?_)
        · first | exact keepP6 (by assumption) (by assumption) | exact keepP6 (Below.refl _ _).drew (by assumption)
        clear hK K2
        try simp only [List.setIfInBounds_toArray, List.set_cons_zero, List.set_cons_succ]
        refine heldOne 13 rfl (by kernel_rfl) (by rfl) (fun K2 hK => ?_)
        go_simp
        refine (CD _ hHeld.2.2.2.2.2.2.out).mono ?_
        rintro e wz ⟨rfl, hb⟩
        simp only []
        refine hK.out _ _ ?_ (fun hHeld => ?_)
        · first | exact keepP6 (by assumption) (by assumption) | exact keepP6 (Below.refl _ _).drew (by assumption)
        clear hK K2
        try simp only [List.setIfInBounds_toArray, List.set_cons_zero, List.set_cons_succ]
        refine heldTake (v := ?_) 14 40 rfl rfl (by kernel_rfl) (by kernel_rfl) (by kernel_rfl) (fun _ _ _ h => h) (by rfl) (fun w hSw => ?_) (by assumption) ?_
        rotate_left
        · (try dsimp only at hSw); first | (go_simp; done) | (go_simp; with_reducible rfl)
        simp only [List.setIfInBounds_toArray, List.set_cons_zero, List.set_cons_succ]
        refine heldTake (v := ?_) 15 41 rfl rfl (by kernel_rfl) (by kernel_rfl) (by kernel_rfl) (fun _ _ _ h => h) (by rfl) (fun w hSw => ?_) (by assumption) ?_
        rotate_left
        · (try dsimp only at hSw); first | (go_simp; done) | (go_simp; with_reducible rfl)
        simp only [List.setIfInBounds_toArray, List.set_cons_zero, List.set_cons_succ]
        refine heldTake (v := ?_) 16 42 rfl rfl (by kernel_rfl) (by kernel_rfl) (by kernel_rfl) (fun _ _ _ h => h) (by rfl) (fun w hSw => ?_) (by assumption) ?_
        rotate_left
        · (try dsimp only at hSw); first | (go_simp; done) | (go_simp; with_reducible rfl)
        simp only [List.setIfInBounds_toArray, List.set_cons_zero, List.set_cons_succ]
        refine heldTake (v := ?_) 17 43 rfl rfl (by kernel_rfl) (by kernel_rfl) (by kernel_rfl) (fun _ _ _ h => h) (by rfl) (fun w hSw => ?_) (by assumption) ?_
        rotate_left
        · (try dsimp only at hSw); first | (go_simp; done) | (go_simp; with_reducible rfl)
        simp only [List.setIfInBounds_toArray, List.set_cons_zero, List.set_cons_succ]
        refine heldTake (v := ?_) 18 44 rfl rfl (by kernel_rfl) (by kernel_rfl) (by kernel_rfl) (fun _ _ _ h => h) (by rfl) (fun w hSw => ?_) (by assumption) ?_
        rotate_left
        · (try dsimp only at hSw); first | (go_simp; done) | (go_simp; with_reducible rfl)
        simp only [List.setIfInBounds_toArray, List.set_cons_zero, List.set_cons_succ]
        refine heldOne 19 rfl (by kernel_rfl) (by rfl) (fun K2 hK => ?_)
        go_simp
        refine (CE _ hHeld.2.2.2.2.2.2.out).mono ?_
        rintro e wz ⟨rfl, hb⟩
        simp only []
        refine hK.out _ _ ?_ (fun hHeld => ?_)
        · first | exact keepP6 (by assumption) (by assumption) | exact keepP6 (Below.refl _ _).drew (by assumption)
        clear hK K2
        try simp only [List.setIfInBounds_toArray, List.set_cons_zero, List.set_cons_succ]
        refine heldTake (v := ?_) 20 46 rfl rfl (by kernel_rfl) (by kernel_rfl) (by kernel_rfl) (fun _ _ _ h => h) (by rfl) (fun w hSw => ?_) (by assumption) ?_
        rotate_left
        · (try dsimp only at hSw); first | (go_simp; done) | (go_simp; with_reducible rfl)
        simp only [List.setIfInBounds_toArray, List.set_cons_zero, List.set_cons_succ]
        refine heldTake (v := ?_) 21 47 rfl rfl (by kernel_rfl) (by kernel_rfl) (by kernel_rfl) (fun _ _ _ h => h) (by rfl) (fun w hSw => ?_) (by assumption) ?_
        rotate_left
        · (try dsimp only at hSw); first | (go_simp; done) | (go_simp; with_reducible rfl)
        simp only [List.setIfInBounds_toArray, List.set_cons_zero, List.set_cons_succ]
        refine heldTake (v := ?_) 22 48 rfl rfl (by kernel_rfl) (by kernel_rfl) (by kernel_rfl) (fun _ _ _ h => h) (by rfl) (fun w hSw => ?_) (by assumption) ?_
        rotate_left
        · (try dsimp only at hSw); first | (go_simp; done) | (go_simp; with_reducible rfl)
        simp only [List.setIfInBounds_toArray, List.set_cons_zero, List.set_cons_succ]
        refine heldTake (v := ?_) 23 49 rfl rfl (by kernel_rfl) (by kernel_rfl) (by kernel_rfl) (fun _ _ _ h => h) (by rfl) (fun w hSw => ?_) (by assumption) ?_
        rotate_left
        · (try dsimp only at hSw); first | (go_simp; done) | (go_simp; with_reducible rfl)
        simp only [List.setIfInBounds_toArray, List.set_cons_zero, List.set_cons_succ]
        refine heldOne 24 rfl (by kernel_rfl) (by rfl) (fun K2 hK => ?_)
        go_simp
        refine (CF _ hHeld.2.2.2.2.2.2.out).mono ?_
        rintro e wz ⟨rfl, hb⟩
        simp only []
        refine hK.out _ _ ?_ (fun hHeld => ?_)
        · first | exact keepP6 (by assumption) (by assumption) | exact keepP6 (Below.refl _ _).drew (by assumption)
        clear hK K2
        try simp only [List.setIfInBounds_toArray, List.set_cons_zero, List.set_cons_succ]
        refine heldTake (v := ?_) 25 51 rfl rfl (by kernel_rfl) (by kernel_rfl) (by kernel_rfl) (fun _ _ _ h => h) (by rfl) (fun w hSw => ?_) (by assumption) ?_
        rotate_left
        · (try dsimp only at hSw); first | (go_simp; done) | (go_simp; with_reducible rfl)
        simp only [List.setIfInBounds_toArray, List.set_cons_zero, List.set_cons_succ]
        refine heldTake (v := ?_) 26 52 rfl rfl (by kernel_rfl) (by kernel_rfl) (by kernel_rfl) (fun _ _ _ h => h) (by rfl) (fun w hSw => ?_) (by assumption) ?_
        rotate_left
        · (try dsimp only at hSw); first | (go_simp; done) | (go_simp; with_reducible rfl)
        simp only [List.setIfInBounds_toArray, List.set_cons_zero, List.set_cons_succ]
        refine heldOne 27 rfl (by kernel_rfl) (by rfl) (fun K2 hK => ?_)
        go_simp
        refine (CG _).mono ?_
        rintro e wz ⟨rfl, hb⟩
        simp only []
        refine hK.out _ _ ?_ (fun hHeld => ?_)
        · first | exact keepP6 (by assumption) (by assumption) | exact keepP6 (Below.refl _ _).drew (by assumption)
        clear hK K2
        try simp only [List.setIfInBounds_toArray, List.set_cons_zero, List.set_cons_succ]
        refine heldTake (v := ?_) 28 54 rfl rfl (by kernel_rfl) (by kernel_rfl) (by kernel_rfl) (fun _ _ _ h => h) (by rfl) (fun w hSw => ?_) (by assumption) ?_
        rotate_left
        · (try dsimp only at hSw); first | (go_simp; done) | (go_simp; with_reducible rfl)
        simp only [List.setIfInBounds_toArray, List.set_cons_zero, List.set_cons_succ]
        refine heldTake (v := ?_) 29 6 rfl rfl (by kernel_rfl) (by kernel_rfl) (by kernel_rfl) (fun _ _ _ h => h) (by rfl) (fun w hSw => ?_) (by assumption) ?_
        rotate_left
        · (try dsimp only at hSw); first | (go_simp; done) | (go_simp; with_reducible rfl)
        simp only [List.setIfInBounds_toArray, List.set_cons_zero, List.set_cons_succ]
        refine wpAnyH_done (by kernel_rfl) ?_ _
        have HB9 := HC.out _ hHeld.2.2.2.2.2.2.out
        clear hHeld HS
        go_wp2
        go_ret
        exact ⟨rfl, HB9⟩

end Go.Proofs.Ytmolklaammfbmaa
