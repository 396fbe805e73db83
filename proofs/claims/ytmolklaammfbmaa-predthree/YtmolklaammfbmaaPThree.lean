/-
  PredThree's walk: what the law answers, whatever its row, places and value.
-/
import Derived.Test.YtmolklaammfbmaaRows
import Derived.Test.YtmolklaammfbmaaPThreeM
import Derived.Test.YtmolklaammfbmaaRKeep
import Derived.Test.YtmolklaammfbmaaRFrame
namespace Go.Proofs.Ytmolklaammfbmaa
open Go.RowKit Go.Lib
set_option linter.unusedVariables false

theorem keepV_same (u0 u1 : Int) (u2 : ByteArray) (v0 v1 : Int) (v2 : ByteArray) (q : Bool) (hq : (cmpV ⟨u0, u1, u2⟩ ⟨v0, v1, v2⟩ == 0) = q) (w : World) :
    Calls Try.prog 19 #[.agg #[.int .i64 u0, .int .i64 u1, .string u2], .agg #[.int .i64 v0, .int .i64 v1, .string v2]] w fun e w' => e = .returned (.bool q) ∧ Below w.heap.size w w' := by
  rw [← hq, ← same_eq]
  exact keepValue_any u0 u1 u2 v0 v1 v2 w

set_option maxHeartbeats 8000000 in
set_option maxRecDepth 100000 in
theorem pthree_heavy (a : Option Addr) (n cap : Nat) (R : List PV) (x y vk vi : Int) (vs : ByteArray) (w : World) (hv : IsVals w a n cap R) (hh : (decide (40 < n) || heavyV R) = true) :
    Calls Try.prog 4 #[.slice a n cap, .int .i64 x, .int .i64 y, .agg #[.int .i64 vk, .int .i64 vi, .string vs]] w fun e w' => e = .returned (.bool true) ∧ Below w.heap.size w w' := by
  have hns := hv.small
  obtain ⟨hn0, hnc, hrV, hnV⟩ := hv.vals
  have HN : Hid (R.length = n) := hn0
  have HV : Hid (RdV w a R) := hrV
  have CH : ∀ W, Below w.heap.size w W → Calls Try.prog 8 #[.slice a n cap] W fun e w' => e = .returned (.bool (decide (40 < n) || heavyV R)) ∧ w' = W := by
    intro W hb
    by_cases h40 : 40 < n
    · simpa [h40] using heavy_long a n cap W h40 hns
    · simpa [h40] using heavy_few a n cap R W hn0 (by omega) (hrV.later hb)
  clear hn0 hrV hnV hv
  have BX := alloc_below w (.cells #[.int .i64 vk, .int .i64 vi, .string vs] 23)
  obtain ⟨c0, c1, c2⟩ := box3 (Below.refl (w.alloc (.cells #[.int .i64 vk, .int .i64 vi, .string vs] 23)).heap.size (w.alloc (.cells #[.int .i64 vk, .int .i64 vi, .string vs] 23)))
  have CH' := CH _ BX
  have HB : Hid (Below w.heap.size w (w.alloc (.cells #[.int .i64 vk, .int .i64 vi, .string vs] 23))) := BX
  rw [hh] at CH'
  clear CH hh
  go_enter Try.func4, Try.ntmps4
  go_wp2_with fail
  refine CH'.mono ?_
  rintro e w1 ⟨rfl, rfl⟩
  go_wp2
  go_ret
  exact ⟨rfl, HB.out⟩

set_option maxHeartbeats 8000000 in
set_option maxRecDepth 100000 in
theorem pthree_none (a : Option Addr) (n cap : Nat) (R : List PV) (x y vk vi : Int) (vs : ByteArray) (w : World) (hv : IsVals w a n cap R) (hh : (decide (40 < n) || heavyV R) = false) (h0 : n = 0) :
    Calls Try.prog 4 #[.slice a n cap, .int .i64 x, .int .i64 y, .agg #[.int .i64 vk, .int .i64 vi, .string vs]] w fun e w' => e = .returned (.bool true) ∧ Below w.heap.size w w' := by
  have hns := hv.small
  obtain ⟨hn0, hnc, hrV, hnV⟩ := hv.vals
  have HN : Hid (R.length = n) := hn0
  have HV : Hid (RdV w a R) := hrV
  have CH : ∀ W, Below w.heap.size w W → Calls Try.prog 8 #[.slice a n cap] W fun e w' => e = .returned (.bool (decide (40 < n) || heavyV R)) ∧ w' = W := by
    intro W hb
    by_cases h40 : 40 < n
    · simpa [h40] using heavy_long a n cap W h40 hns
    · simpa [h40] using heavy_few a n cap R W hn0 (by omega) (hrV.later hb)
  clear hn0 hrV hnV hv
  have BX := alloc_below w (.cells #[.int .i64 vk, .int .i64 vi, .string vs] 23)
  obtain ⟨c0, c1, c2⟩ := box3 (Below.refl (w.alloc (.cells #[.int .i64 vk, .int .i64 vi, .string vs] 23)).heap.size (w.alloc (.cells #[.int .i64 vk, .int .i64 vi, .string vs] 23)))
  have CH' := CH _ BX
  have HB : Hid (Below w.heap.size w (w.alloc (.cells #[.int .i64 vk, .int .i64 vi, .string vs] 23))) := BX
  rw [hh] at CH'
  clear CH hh
  subst h0
  go_enter Try.func4, Try.ntmps4
  go_wp2_with fail
  refine CH'.mono ?_
  rintro e w1 ⟨rfl, rfl⟩
  go_wp2
  go_ret
  exact ⟨rfl, HB.out⟩

set_option maxHeartbeats 8000000 in
set_option maxRecDepth 100000 in
theorem pthree_long (a : Option Addr) (n cap : Nat) (R : List PV) (x y vk vi : Int) (vs : ByteArray) (w : World) (hv : IsVals w a n cap R) (hh : (decide (40 < n) || heavyV R) = false) (h0 : 0 < n) (hl : longT [vs] = true) :
    Calls Try.prog 4 #[.slice a n cap, .int .i64 x, .int .i64 y, .agg #[.int .i64 vk, .int .i64 vi, .string vs]] w fun e w' => e = .returned (.bool true) ∧ Below w.heap.size w w' := by
  have hns := hv.small
  obtain ⟨hn0, hnc, hrV, hnV⟩ := hv.vals
  have HN : Hid (R.length = n) := hn0
  have HV : Hid (RdV w a R) := hrV
  have CH : ∀ W, Below w.heap.size w W → Calls Try.prog 8 #[.slice a n cap] W fun e w' => e = .returned (.bool (decide (40 < n) || heavyV R)) ∧ w' = W := by
    intro W hb
    by_cases h40 : 40 < n
    · simpa [h40] using heavy_long a n cap W h40 hns
    · simpa [h40] using heavy_few a n cap R W hn0 (by omega) (hrV.later hb)
  clear hn0 hrV hnV hv
  have BX := alloc_below w (.cells #[.int .i64 vk, .int .i64 vi, .string vs] 23)
  obtain ⟨c0, c1, c2⟩ := box3 (Below.refl (w.alloc (.cells #[.int .i64 vk, .int .i64 vi, .string vs] 23)).heap.size (w.alloc (.cells #[.int .i64 vk, .int .i64 vi, .string vs] 23)))
  have CH' := CH _ BX
  have HB : Hid (Below w.heap.size w (w.alloc (.cells #[.int .i64 vk, .int .i64 vi, .string vs] 23))) := BX
  have HL : Hid (longT [vs] = true) := hl
  clear hl
  rw [hh] at CH'
  have hn1 : ((n : Int) == 0) = false := by simp; omega
  have hn2 : (n = 0) = False := eq_false (by omega)
  clear CH hh
  go_enter Try.func4, Try.ntmps4
  go_wp2_with fail
  refine CH'.mono ?_
  rintro e w1 ⟨rfl, rfl⟩
  go_wp2_with fail
  refine (long_any (w.heap.size + 1) 1 1 [vs] _ rfl (by omega) (fun i hi => ?_)).mono ?_
  · obtain rfl : i = 0 := by simpa using hi
    go_simp
  rintro e w2 ⟨rfl, rfl⟩
  replace c0 := cell_later (alloc_below _ (.cells #[.int .i64 vk, .int .i64 vi, .string vs] 23)) c0
  replace c1 := cell_later (alloc_below _ (.cells #[.int .i64 vk, .int .i64 vi, .string vs] 23)) c1
  replace c2 := cell_later (alloc_below _ (.cells #[.int .i64 vk, .int .i64 vi, .string vs] 23)) c2
  replace HB := chain HB.out (alloc_below _ (.cells #[.int .i64 vk, .int .i64 vi, .string vs] 23))
  generalize hW1 : ((w.alloc (.cells #[.int .i64 vk, .int .i64 vi, .string vs] 23)).alloc (.cells #[.int .i64 vk, .int .i64 vi, .string vs] 23)) = w1 at *
  replace HB : Hid (Below w.heap.size w w1) := HB
  clear hW1 BX CH'
  rw [HL.out]
  go_wp2
  go_ret
  exact ⟨rfl, HB.out⟩

set_option maxHeartbeats 8000000 in
set_option maxRecDepth 100000 in
theorem pthree_some (a : Option Addr) (n cap : Nat) (R : List PV) (x y vk vi : Int) (vs : ByteArray) (w : World) (hv : IsVals w a n cap R) (hh : (decide (40 < n) || heavyV R) = false) (h0 : 0 < n) (hl : longT [vs] = false) :
    Calls Try.prog 4 #[.slice a n cap, .int .i64 x, .int .i64 y, .agg #[.int .i64 vk, .int .i64 vi, .string vs]] w fun e w' => e = .returned (.bool true) ∧ Below w.heap.size w w' := by
  have hns := hv.small
  obtain ⟨hn0, hnc, hrV, hnV⟩ := hv.vals
  have HN : Hid (R.length = n) := hn0
  have HV : Hid (RdV w a R) := hrV
  have CH : ∀ W, Below w.heap.size w W → Calls Try.prog 8 #[.slice a n cap] W fun e w' => e = .returned (.bool (decide (40 < n) || heavyV R)) ∧ w' = W := by
    intro W hb
    by_cases h40 : 40 < n
    · simpa [h40] using heavy_long a n cap W h40 hns
    · simpa [h40] using heavy_few a n cap R W hn0 (by omega) (hrV.later hb)
  clear hn0 hrV hnV hv
  have BX := alloc_below w (.cells #[.int .i64 vk, .int .i64 vi, .string vs] 23)
  obtain ⟨c0, c1, c2⟩ := box3 (Below.refl (w.alloc (.cells #[.int .i64 vk, .int .i64 vi, .string vs] 23)).heap.size (w.alloc (.cells #[.int .i64 vk, .int .i64 vi, .string vs] 23)))
  have CH' := CH _ BX
  have HB : Hid (Below w.heap.size w (w.alloc (.cells #[.int .i64 vk, .int .i64 vi, .string vs] 23))) := BX
  have HL : Hid (longT [vs] = false) := hl
  clear hl
  rw [hh] at CH'
  have hn40 : n ≤ 40 := by
    simp at hh
    omega
  obtain ⟨i, hi, ei1, ei2, ei3⟩ := modAt x n h0 (by omega)
  obtain ⟨j, hj, ej1, ej2, ej3⟩ := modAt y n h0 (by omega)
  have hil : i < R.length := by rw [HN.out]; exact hi
  have hjl : j < R.length := by rw [HN.out]; exact hj
  have wn : IntKind.u64.wrap (n : Int) = (n : Int) := by rw [IntKind.wrap_u64]; omega
  have hm1 : (n : Int) ≠ 0 := by omega
  have hm2 : ((n : Int) = 0) = False := eq_false hm1
  obtain ⟨b, off, rfl, hc⟩ := HV.out (by omega)
  obtain ⟨y0, y1, y2⟩ := hc i hil
  obtain ⟨z0, z1, z2⟩ := hc j hjl
  have H4 := holds_4 hil hjl ⟨0, 0, ⟨#[]⟩⟩
  have H4' := holds_4 hjl hil ⟨0, 0, ⟨#[]⟩⟩
  have H3 := holds_3 hil hjl ⟨0, 0, ⟨#[]⟩⟩
  have H1 := holds_1 hil ⟨vk, vi, vs⟩ 0
  have H2 := holds_2 hil ⟨vk, vi, vs⟩ 0
  have H5 := holds_5 hil ⟨0, 0, ⟨#[]⟩⟩ 0
  have H6 := holds_6 hil ⟨0, 0, ⟨#[]⟩⟩ 0
  have H7 : holdsP ⟨5, n, 0, ⟨0, 0, ⟨#[]⟩⟩⟩ R = false := holds_out (.inr (by rw [HN.out]; omega))
  have H8 : holdsP ⟨6, -1, 0, ⟨0, 0, ⟨#[]⟩⟩⟩ R = false := holds_out (.inl (by omega))
  have E1 := three_one R[i] R[j]
  have E2 := null_one (R[i].k == 1)
  have E3 := less_eq R[i] ⟨vk, vi, vs⟩
  have hn4 : n ≤ 65536 := by omega
  have HV' : ∀ V, Below w.heap.size w V → RdV V (some ⟨b, off, none⟩) R := fun V hb => HV.out.later hb
  have CP : ∀ (k c o q0 q1 : Int) (q2 : ByteArray) (V : World), Below w.heap.size w V → Calls Try.prog 13 #[.agg #[.int .i64 k, .int .i64 c, .int .i64 o, .int .i64 q0, .int .i64 q1, .string q2], .slice (some ⟨b, off, none⟩) n cap] V fun e w' => e = .returned (.bool (holdsP ⟨k, c, o, ⟨q0, q1, q2⟩⟩ R)) ∧ Below V.heap.size V w' :=
    fun k c o q0 q1 q2 V hb => pHolds_at k c o q0 q1 q2 _ n cap R V HN.out hn4 (HV' V hb)
  have CA : ∀ V, Below w.heap.size w V → _ := fun V hb => CP 4 i j 0 0 ⟨#[]⟩ V hb
  have CB : ∀ V, Below w.heap.size w V → _ := fun V hb => CP 4 j i 0 0 ⟨#[]⟩ V hb
  have CC : ∀ V, Below w.heap.size w V → _ := fun V hb => CP 3 i j 0 0 ⟨#[]⟩ V hb
  have CD : ∀ V, Below w.heap.size w V → _ := fun V hb => CP 5 i 0 0 0 ⟨#[]⟩ V hb
  have CE : ∀ V, Below w.heap.size w V → _ := fun V hb => CP 6 i 0 0 0 ⟨#[]⟩ V hb
  have CF : ∀ V, Below w.heap.size w V → _ := fun V hb => CP 2 i 0 vk vi vs V hb
  have CG : ∀ V, Below w.heap.size w V → _ := fun V hb => CP 1 i 0 vk vi vs V hb
  have CI : ∀ V, Below w.heap.size w V → _ := fun V hb => CP 5 n 0 0 0 ⟨#[]⟩ V hb
  have CJ : ∀ V, Below w.heap.size w V → _ := fun V hb => CP 6 (-1) 0 0 0 ⟨#[]⟩ V hb
  simp only [H4] at CA
  simp only [H4'] at CB
  simp only [H3] at CC
  simp only [H5] at CD
  simp only [H6] at CE
  simp only [H2] at CF
  simp only [H1] at CG
  simp only [H7] at CI
  simp only [H8] at CJ
  clear H4 H4' H3 H1 H2 H5 H6 H7 H8 CP HV' hc HV
  generalize R[i] = u at *
  generalize R[j] = v at *
  obtain ⟨u0, u1, u2⟩ := u
  obtain ⟨v0, v1, v2⟩ := v
  simp only at y0 y1 y2 z0 z1 z2 E2 CD CE
  have CK : ∀ V, _ := fun V => keepV_same u0 u1 u2 vk vi vs _ rfl V
  have CL : ∀ V, _ := fun V => keepV_same u0 u1 u2 v0 v1 v2 _ rfl V
  have CW := predwakes_any
  generalize (cmpV ⟨u0, u1, u2⟩ ⟨vk, vi, vs⟩ == 0) = eq at *
  generalize decide (cmpV ⟨u0, u1, u2⟩ ⟨vk, vi, vs⟩ < 0) = less at *
  generalize decide (cmpV ⟨u0, u1, u2⟩ ⟨v0, v1, v2⟩ < 0) = b1 at *
  generalize decide (cmpV ⟨v0, v1, v2⟩ ⟨u0, u1, u2⟩ < 0) = b2 at *
  generalize (cmpV ⟨u0, u1, u2⟩ ⟨v0, v1, v2⟩ == 0) = b3 at *
  generalize (u0 == 1) = nu at *
  have HE1 : Hid (cntB [b1, b2, b3] = 1) := E1
  have HE2 : Hid (cntB [nu, !nu] = 1) := E2
  have HE3 : Hid (less = true → eq = false) := E3
  clear E1 E2 E3 hil hjl
  have i0 : (0 : Int) ≤ (i : Int) := by omega
  have i1 : (i : Int) < (n : Int) := by omega
  have j0 : (0 : Int) ≤ (j : Int) := by omega
  have j1 : (j : Int) < (n : Int) := by omega
  have hn1 : ((n : Int) == 0) = false := by simp; omega
  have hn2 : (n = 0) = False := eq_false (by omega)
  clear CH hh
  go_enter Try.func4, Try.ntmps4
  go_wp2_with fail
  refine CH'.mono ?_
  rintro e w1 ⟨rfl, rfl⟩
  go_wp2_with fail
  refine (long_any (w.heap.size + 1) 1 1 [vs] _ rfl (by omega) (fun i hi => ?_)).mono ?_
  · obtain rfl : i = 0 := by simpa using hi
    go_simp
  rintro e w2 ⟨rfl, rfl⟩
  replace c0 := cell_later (alloc_below _ (.cells #[.int .i64 vk, .int .i64 vi, .string vs] 23)) c0
  replace c1 := cell_later (alloc_below _ (.cells #[.int .i64 vk, .int .i64 vi, .string vs] 23)) c1
  replace c2 := cell_later (alloc_below _ (.cells #[.int .i64 vk, .int .i64 vi, .string vs] 23)) c2
  replace HB := chain HB.out (alloc_below _ (.cells #[.int .i64 vk, .int .i64 vi, .string vs] 23))
  generalize hW1 : ((w.alloc (.cells #[.int .i64 vk, .int .i64 vi, .string vs] 23)).alloc (.cells #[.int .i64 vk, .int .i64 vi, .string vs] 23)) = w1 at *
  replace HB : Hid (Below w.heap.size w w1) := HB
  clear hW1 BX CH'
  rw [HL.out]
  go_upto_region 3 with fail
  have HS : w1.cell? ⟨w.heap.size, 0, none⟩ = some (.int .i64 vk) ∧ w1.cell? ⟨w.heap.size, 1, none⟩ = some (.int .i64 vi) ∧ w1.cell? ⟨w.heap.size, 2, none⟩ = some (.string vs) ∧ w1.cell? ⟨b, off + i * 3, none⟩ = some (.int .i64 u0) ∧ w1.cell? ⟨b, off + i * 3 + 1, none⟩ = some (.int .i64 u1) ∧ w1.cell? ⟨b, off + i * 3 + 2, none⟩ = some (.string u2) ∧ w1.cell? ⟨b, off + j * 3, none⟩ = some (.int .i64 v0) ∧ w1.cell? ⟨b, off + j * 3 + 1, none⟩ = some (.int .i64 v1) ∧ w1.cell? ⟨b, off + j * 3 + 2, none⟩ = some (.string v2) ∧ Hid (Below w.heap.size w w1) := ⟨c0, c1, c2, cell_later HB.out y0, cell_later HB.out y1, cell_later HB.out y2, cell_later HB.out z0, cell_later HB.out z1, cell_later HB.out z2, HB⟩
  have HS : w1.drew.cell? ⟨w.heap.size, 0, none⟩ = some (.int .i64 vk) ∧ w1.drew.cell? ⟨w.heap.size, 1, none⟩ = some (.int .i64 vi) ∧ w1.drew.cell? ⟨w.heap.size, 2, none⟩ = some (.string vs) ∧ w1.drew.cell? ⟨b, off + i * 3, none⟩ = some (.int .i64 u0) ∧ w1.drew.cell? ⟨b, off + i * 3 + 1, none⟩ = some (.int .i64 u1) ∧ w1.drew.cell? ⟨b, off + i * 3 + 2, none⟩ = some (.string u2) ∧ w1.drew.cell? ⟨b, off + j * 3, none⟩ = some (.int .i64 v0) ∧ w1.drew.cell? ⟨b, off + j * 3 + 1, none⟩ = some (.int .i64 v1) ∧ w1.drew.cell? ⟨b, off + j * 3 + 2, none⟩ = some (.string v2) ∧ Hid (Below w.heap.size w w1.drew) := keepP9 (Below.refl _ _).drew HS
  clear c0 c1 c2 y0 y1 y2 z0 z1 z2 HB
  refine wp_region_held_drew (S := (fun w' => w'.cell? ⟨w.heap.size, 0, none⟩ = some (.int .i64 vk) ∧ w'.cell? ⟨w.heap.size, 1, none⟩ = some (.int .i64 vi) ∧ w'.cell? ⟨w.heap.size, 2, none⟩ = some (.string vs) ∧ w'.cell? ⟨b, off + i * 3, none⟩ = some (.int .i64 u0) ∧ w'.cell? ⟨b, off + i * 3 + 1, none⟩ = some (.int .i64 u1) ∧ w'.cell? ⟨b, off + i * 3 + 2, none⟩ = some (.string u2) ∧ w'.cell? ⟨b, off + j * 3, none⟩ = some (.int .i64 v0) ∧ w'.cell? ⟨b, off + j * 3 + 1, none⟩ = some (.int .i64 v1) ∧ w'.cell? ⟨b, off + j * 3 + 2, none⟩ = some (.string v2) ∧ Hid (Below w.heap.size w w'))) (by kernel_rfl) HS (fun hHeld => ?_)
  refine heldTake (v := ?_) 0 25 rfl rfl (by kernel_rfl) (by kernel_rfl) (by kernel_rfl) (fun _ _ _ h => h) (by rfl) (fun w hSw => ?_) (by assumption) ?_
  rotate_left
  · (try dsimp only at hSw); first | (go_simp; done) | (go_simp; with_reducible rfl)
  simp only [List.setIfInBounds_toArray, List.set_cons_zero, List.set_cons_succ]
  refine heldTake (v := ?_) 1 26 rfl rfl (by kernel_rfl) (by kernel_rfl) (by kernel_rfl) (fun _ _ _ h => h) (by rfl) (fun w hSw => ?_) (by assumption) ?_
  rotate_left
  · (try dsimp only at hSw); first | (go_simp; done) | (go_simp; with_reducible rfl)
  simp only [List.setIfInBounds_toArray, List.set_cons_zero, List.set_cons_succ]
  refine heldTake (v := ?_) 2 27 rfl rfl (by kernel_rfl) (by kernel_rfl) (by kernel_rfl) (fun _ _ _ h => h) (by rfl) (fun w hSw => ?_) (by assumption) ?_
  rotate_left
  · (try dsimp only at hSw); first | (go_simp; done) | (go_simp; with_reducible rfl)
  simp only [List.setIfInBounds_toArray, List.set_cons_zero, List.set_cons_succ]
  refine heldTake (v := ?_) 3 28 rfl rfl (by kernel_rfl) (by kernel_rfl) (by kernel_rfl) (fun _ _ _ h => h) (by rfl) (fun w hSw => ?_) (by assumption) ?_
  rotate_left
  · (try dsimp only at hSw); first | (go_simp; done) | (go_simp; with_reducible rfl)
  simp only [List.setIfInBounds_toArray, List.set_cons_zero, List.set_cons_succ]
  refine heldTake (v := ?_) 4 29 rfl rfl (by kernel_rfl) (by kernel_rfl) (by kernel_rfl) (fun _ _ _ h => h) (by rfl) (fun w hSw => ?_) (by assumption) ?_
  rotate_left
  · (try dsimp only at hSw); first | (go_simp; done) | (go_simp; with_reducible rfl)
  simp only [List.setIfInBounds_toArray, List.set_cons_zero, List.set_cons_succ]
  refine heldTake (v := ?_) 5 30 rfl rfl (by kernel_rfl) (by kernel_rfl) (by kernel_rfl) (fun _ _ _ h => h) (by rfl) (fun w hSw => ?_) (by assumption) ?_
  rotate_left
  · (try dsimp only at hSw); first | (go_simp; done) | (go_simp; with_reducible rfl)
  simp only [List.setIfInBounds_toArray, List.set_cons_zero, List.set_cons_succ]
  refine heldTake (v := ?_) 6 31 rfl rfl (by kernel_rfl) (by kernel_rfl) (by kernel_rfl) (fun _ _ _ h => h) (by rfl) (fun w hSw => ?_) (by assumption) ?_
  rotate_left
  · (try dsimp only at hSw); first | (go_simp; done) | (go_simp; with_reducible rfl)
  simp only [List.setIfInBounds_toArray, List.set_cons_zero, List.set_cons_succ]
  refine heldTake (v := ?_) 7 32 rfl rfl (by kernel_rfl) (by kernel_rfl) (by kernel_rfl) (fun _ _ _ h => h) (by rfl) (fun w hSw => ?_) (by assumption) ?_
  rotate_left
  · (try dsimp only at hSw); first | (go_simp; done) | (go_simp; with_reducible rfl)
  simp only [List.setIfInBounds_toArray, List.set_cons_zero, List.set_cons_succ]
  refine heldTake (v := ?_) 8 33 rfl rfl (by kernel_rfl) (by kernel_rfl) (by kernel_rfl) (fun _ _ _ h => h) (by rfl) (fun w hSw => ?_) (by assumption) ?_
  rotate_left
  · (try dsimp only at hSw); first | (go_simp; done) | (go_simp; with_reducible rfl)
  simp only [List.setIfInBounds_toArray, List.set_cons_zero, List.set_cons_succ]
  refine heldTake (v := ?_) 9 34 rfl rfl (by kernel_rfl) (by kernel_rfl) (by kernel_rfl) (fun _ _ _ h => h) (by rfl) (fun w hSw => ?_) (by assumption) ?_
  rotate_left
  · (try dsimp only at hSw); first | (go_simp; done) | (go_simp; with_reducible rfl)
  simp only [List.setIfInBounds_toArray, List.set_cons_zero, List.set_cons_succ]
  refine heldTake (v := ?_) 10 35 rfl rfl (by kernel_rfl) (by kernel_rfl) (by kernel_rfl) (fun _ _ _ h => h) (by rfl) (fun w hSw => ?_) (by assumption) ?_
  rotate_left
  · (try dsimp only at hSw); first | (go_simp; done) | (go_simp; with_reducible rfl)
  simp only [List.setIfInBounds_toArray, List.set_cons_zero, List.set_cons_succ]
  refine heldTake (v := ?_) 11 36 rfl rfl (by kernel_rfl) (by kernel_rfl) (by kernel_rfl) (fun _ _ _ h => h) (by rfl) (fun w hSw => ?_) (by assumption) ?_
  rotate_left
  · (try dsimp only at hSw); first | (go_simp; done) | (go_simp; with_reducible rfl)
  simp only [List.setIfInBounds_toArray, List.set_cons_zero, List.set_cons_succ]
  refine heldTake (v := ?_) 12 37 rfl rfl (by kernel_rfl) (by kernel_rfl) (by kernel_rfl) (fun _ _ _ h => h) (by rfl) (fun w hSw => ?_) (by assumption) ?_
  rotate_left
  · (try dsimp only at hSw); first | (go_simp; done) | (go_simp; with_reducible rfl)
  simp only [List.setIfInBounds_toArray, List.set_cons_zero, List.set_cons_succ]
  refine heldTake (v := ?_) 13 38 rfl rfl (by kernel_rfl) (by kernel_rfl) (by kernel_rfl) (fun _ _ _ h => h) (by rfl) (fun w hSw => ?_) (by assumption) ?_
  rotate_left
  · (try dsimp only at hSw); first | (go_simp; done) | (go_simp; with_reducible rfl)
  simp only [List.setIfInBounds_toArray, List.set_cons_zero, List.set_cons_succ]
  refine heldTake (v := ?_) 14 1 rfl rfl (by kernel_rfl) (by kernel_rfl) (by kernel_rfl) (fun _ _ _ h => h) (by rfl) (fun w hSw => ?_) (by assumption) ?_
  rotate_left
  · (try dsimp only at hSw); first | (go_simp; done) | (go_simp; with_reducible rfl)
  simp only [List.setIfInBounds_toArray, List.set_cons_zero, List.set_cons_succ]
  refine heldTake (v := ?_) 15 2 rfl rfl (by kernel_rfl) (by kernel_rfl) (by kernel_rfl) (fun _ _ _ h => h) (by rfl) (fun w hSw => ?_) (by assumption) ?_
  rotate_left
  · (try dsimp only at hSw); first | (go_simp; done) | (go_simp; with_reducible rfl)
  simp only [List.setIfInBounds_toArray, List.set_cons_zero, List.set_cons_succ]
  refine wpAnyH_done (by kernel_rfl) ?_ _
  replace HS := hHeld
  have HB : Hid (Below w.heap.size w _) := hHeld.2.2.2.2.2.2.2.2.2
  clear hHeld
  rename World => w2
  go_wp2_with fail
  refine (CA _ HB.out).mono ?_
  rintro e wz ⟨rfl, hb⟩
  replace HS := keepP9 hb HS
  replace HB : Hid (Below w.heap.size w _) := chain HB.out hb
  clear hb
  rename World => w3
  go_wp2_with fail
  refine (CB _ HB.out).mono ?_
  rintro e wz ⟨rfl, hb⟩
  replace HS := keepP9 hb HS
  replace HB : Hid (Below w.heap.size w _) := chain HB.out hb
  clear hb
  rename World => w4
  go_wp2_with fail
  refine (CC _ HB.out).mono ?_
  rintro e wz ⟨rfl, hb⟩
  replace HS := keepP9 hb HS
  replace HB : Hid (Below w.heap.size w _) := chain HB.out hb
  clear hb
  rename World => w5
  go_wp2_with fail
  refine (count15_any w5.heap.size 3 3 [b1, b2, b3] _ rfl (by omega) (fun i hi => ?_)).mono ?_
  · match i, hi with
    | 0, _ => go_simp
    | 1, _ => go_simp
    | 2, _ => go_simp
  rintro e wz ⟨rfl, hb⟩
  have hb' := chain (alloc_below _ _) hb
  replace HS := keepP9 hb' HS
  replace HB : Hid (Below w.heap.size w _) := chain HB.out hb'
  clear hb hb'
  rename World => w6
  rw [HE1.out]
  go_wp2_with fail
  refine (CD _ HB.out).mono ?_
  rintro e wz ⟨rfl, hb⟩
  replace HS := keepP9 hb HS
  replace HB : Hid (Below w.heap.size w _) := chain HB.out hb
  clear hb
  rename World => wa
  go_wp2_with fail
  refine (CE _ HB.out).mono ?_
  rintro e wz ⟨rfl, hb⟩
  replace HS := keepP9 hb HS
  replace HB : Hid (Below w.heap.size w _) := chain HB.out hb
  clear hb
  rename World => wb
  go_wp2_with fail
  refine (count15_any wb.heap.size 2 2 [nu, !nu] _ rfl (by omega) (fun i hi => ?_)).mono ?_
  · match i, hi with
    | 0, _ => go_simp
    | 1, _ => go_simp
  rintro e wz ⟨rfl, hb⟩
  have hb' := chain (alloc_below _ _) hb
  replace HS := keepP9 hb' HS
  replace HB : Hid (Below w.heap.size w _) := chain HB.out hb'
  clear hb hb'
  rename World => wc
  rw [HE2.out]
  go_upto_region 6 with fail
  replace HS : wc.drew.cell? ⟨w.heap.size, 0, none⟩ = some (.int .i64 vk) ∧ wc.drew.cell? ⟨w.heap.size, 1, none⟩ = some (.int .i64 vi) ∧ wc.drew.cell? ⟨w.heap.size, 2, none⟩ = some (.string vs) ∧ wc.drew.cell? ⟨b, off + i * 3, none⟩ = some (.int .i64 u0) ∧ wc.drew.cell? ⟨b, off + i * 3 + 1, none⟩ = some (.int .i64 u1) ∧ wc.drew.cell? ⟨b, off + i * 3 + 2, none⟩ = some (.string u2) ∧ wc.drew.cell? ⟨b, off + j * 3, none⟩ = some (.int .i64 v0) ∧ wc.drew.cell? ⟨b, off + j * 3 + 1, none⟩ = some (.int .i64 v1) ∧ wc.drew.cell? ⟨b, off + j * 3 + 2, none⟩ = some (.string v2) ∧ Hid (Below w.heap.size w wc.drew) := keepP9 (Below.refl _ _).drew HS
  clear HB
  refine wp_region_held_drew (S := (fun w' => w'.cell? ⟨w.heap.size, 0, none⟩ = some (.int .i64 vk) ∧ w'.cell? ⟨w.heap.size, 1, none⟩ = some (.int .i64 vi) ∧ w'.cell? ⟨w.heap.size, 2, none⟩ = some (.string vs) ∧ w'.cell? ⟨b, off + i * 3, none⟩ = some (.int .i64 u0) ∧ w'.cell? ⟨b, off + i * 3 + 1, none⟩ = some (.int .i64 u1) ∧ w'.cell? ⟨b, off + i * 3 + 2, none⟩ = some (.string u2) ∧ w'.cell? ⟨b, off + j * 3, none⟩ = some (.int .i64 v0) ∧ w'.cell? ⟨b, off + j * 3 + 1, none⟩ = some (.int .i64 v1) ∧ w'.cell? ⟨b, off + j * 3 + 2, none⟩ = some (.string v2) ∧ Hid (Below w.heap.size w w'))) (by kernel_rfl) HS (fun hHeld => ?_)
  refine heldTake (v := ?_) 0 66 rfl rfl (by kernel_rfl) (by kernel_rfl) (by kernel_rfl) (fun _ _ _ h => h) (by rfl) (fun w hSw => ?_) (by assumption) ?_
  rotate_left
  · (try dsimp only at hSw); first | (go_simp; done) | (go_simp; with_reducible rfl)
  simp only [List.setIfInBounds_toArray, List.set_cons_zero, List.set_cons_succ]
  refine heldTake (v := ?_) 1 67 rfl rfl (by kernel_rfl) (by kernel_rfl) (by kernel_rfl) (fun _ _ _ h => h) (by rfl) (fun w hSw => ?_) (by assumption) ?_
  rotate_left
  · (try dsimp only at hSw); first | (go_simp; done) | (go_simp; with_reducible rfl)
  simp only [List.setIfInBounds_toArray, List.set_cons_zero, List.set_cons_succ]
  refine heldTake (v := ?_) 2 68 rfl rfl (by kernel_rfl) (by kernel_rfl) (by kernel_rfl) (fun _ _ _ h => h) (by rfl) (fun w hSw => ?_) (by assumption) ?_
  rotate_left
  · (try dsimp only at hSw); first | (go_simp; done) | (go_simp; with_reducible rfl)
  simp only [List.setIfInBounds_toArray, List.set_cons_zero, List.set_cons_succ]
  refine heldTake (v := ?_) 3 69 rfl rfl (by kernel_rfl) (by kernel_rfl) (by kernel_rfl) (fun _ _ _ h => h) (by rfl) (fun w hSw => ?_) (by assumption) ?_
  rotate_left
  · (try dsimp only at hSw); first | (go_simp; done) | (go_simp; with_reducible rfl)
  simp only [List.setIfInBounds_toArray, List.set_cons_zero, List.set_cons_succ]
  refine heldTake (v := ?_) 5 71 rfl rfl (by kernel_rfl) (by kernel_rfl) (by kernel_rfl) (fun _ _ _ h => h) (by rfl) (fun w hSw => ?_) (by assumption) ?_
  rotate_left
  · (try dsimp only at hSw); first | (go_simp; done) | (go_simp; with_reducible rfl)
  simp only [List.setIfInBounds_toArray, List.set_cons_zero, List.set_cons_succ]
  refine heldTake (v := ?_) 6 72 rfl rfl (by kernel_rfl) (by kernel_rfl) (by kernel_rfl) (fun _ _ _ h => h) (by rfl) (fun w hSw => ?_) (by assumption) ?_
  rotate_left
  · (try dsimp only at hSw); first | (go_simp; done) | (go_simp; with_reducible rfl)
  simp only [List.setIfInBounds_toArray, List.set_cons_zero, List.set_cons_succ]
  refine heldTake (v := ?_) 7 73 rfl rfl (by kernel_rfl) (by kernel_rfl) (by kernel_rfl) (fun _ _ _ h => h) (by rfl) (fun w hSw => ?_) (by assumption) ?_
  rotate_left
  · (try dsimp only at hSw); first | (go_simp; done) | (go_simp; with_reducible rfl)
  simp only [List.setIfInBounds_toArray, List.set_cons_zero, List.set_cons_succ]
  refine heldTake (v := ?_) 8 74 rfl rfl (by kernel_rfl) (by kernel_rfl) (by kernel_rfl) (fun _ _ _ h => h) (by rfl) (fun w hSw => ?_) (by assumption) ?_
  rotate_left
  · (try dsimp only at hSw); first | (go_simp; done) | (go_simp; with_reducible rfl)
  simp only [List.setIfInBounds_toArray, List.set_cons_zero, List.set_cons_succ]
  refine heldOne 4 rfl (by kernel_rfl) (by rfl) (fun K2 hK => ?_)
  go_simp
  refine (CF _ hHeld.2.2.2.2.2.2.2.2.2.out).mono ?_
  rintro e wz ⟨rfl, hb⟩
  simp only []
  refine hK.out _ _ ?_ (fun hHeld => ?_)
  · first | exact keepP9 (by assumption) (by assumption) | exact keepP9 (Below.refl _ _).drew (by assumption)
  clear hK K2
  try simp only [List.setIfInBounds_toArray, List.set_cons_zero, List.set_cons_succ]
  refine heldOne 9 rfl (by kernel_rfl) (by rfl) (fun K2 hK => ?_)
  go_simp
  refine (CG _ hHeld.2.2.2.2.2.2.2.2.2.out).mono ?_
  rintro e wz ⟨rfl, hb⟩
  simp only []
  refine hK.out _ _ ?_ (fun hHeld => ?_)
  · first | exact keepP9 (by assumption) (by assumption) | exact keepP9 (Below.refl _ _).drew (by assumption)
  clear hK K2
  try simp only [List.setIfInBounds_toArray, List.set_cons_zero, List.set_cons_succ]
  refine heldTake (v := ?_) 10 11 rfl rfl (by kernel_rfl) (by kernel_rfl) (by kernel_rfl) (fun _ _ _ h => h) (by rfl) (fun w hSw => ?_) (by assumption) ?_
  rotate_left
  · (try dsimp only at hSw); first | (go_simp; done) | (go_simp; with_reducible rfl)
  simp only [List.setIfInBounds_toArray, List.set_cons_zero, List.set_cons_succ]
  refine heldTake (v := ?_) 11 12 rfl rfl (by kernel_rfl) (by kernel_rfl) (by kernel_rfl) (fun _ _ _ h => h) (by rfl) (fun w hSw => ?_) (by assumption) ?_
  rotate_left
  · (try dsimp only at hSw); first | (go_simp; done) | (go_simp; with_reducible rfl)
  simp only [List.setIfInBounds_toArray, List.set_cons_zero, List.set_cons_succ]
  refine wpAnyH_done (by kernel_rfl) ?_ _
  replace HS := hHeld
  clear hHeld
  rename World => w7
  cases less with
  | true =>
    obtain rfl : eq = false := HE3.out rfl
    go_upto_region 7 with fail
    replace HS : w7.drew.cell? ⟨w.heap.size, 0, none⟩ = some (.int .i64 vk) ∧ w7.drew.cell? ⟨w.heap.size, 1, none⟩ = some (.int .i64 vi) ∧ w7.drew.cell? ⟨w.heap.size, 2, none⟩ = some (.string vs) ∧ w7.drew.cell? ⟨b, off + i * 3, none⟩ = some (.int .i64 u0) ∧ w7.drew.cell? ⟨b, off + i * 3 + 1, none⟩ = some (.int .i64 u1) ∧ w7.drew.cell? ⟨b, off + i * 3 + 2, none⟩ = some (.string u2) ∧ w7.drew.cell? ⟨b, off + j * 3, none⟩ = some (.int .i64 v0) ∧ w7.drew.cell? ⟨b, off + j * 3 + 1, none⟩ = some (.int .i64 v1) ∧ w7.drew.cell? ⟨b, off + j * 3 + 2, none⟩ = some (.string v2) ∧ Hid (Below w.heap.size w w7.drew) := keepP9 (Below.refl _ _).drew HS
    refine wp_region_held_drew (S := (fun w' => w'.cell? ⟨w.heap.size, 0, none⟩ = some (.int .i64 vk) ∧ w'.cell? ⟨w.heap.size, 1, none⟩ = some (.int .i64 vi) ∧ w'.cell? ⟨w.heap.size, 2, none⟩ = some (.string vs) ∧ w'.cell? ⟨b, off + i * 3, none⟩ = some (.int .i64 u0) ∧ w'.cell? ⟨b, off + i * 3 + 1, none⟩ = some (.int .i64 u1) ∧ w'.cell? ⟨b, off + i * 3 + 2, none⟩ = some (.string u2) ∧ w'.cell? ⟨b, off + j * 3, none⟩ = some (.int .i64 v0) ∧ w'.cell? ⟨b, off + j * 3 + 1, none⟩ = some (.int .i64 v1) ∧ w'.cell? ⟨b, off + j * 3 + 2, none⟩ = some (.string v2) ∧ Hid (Below w.heap.size w w'))) (by kernel_rfl) HS (fun hHeld => ?_)
    refine heldTake (v := ?_) 0 76 rfl rfl (by kernel_rfl) (by kernel_rfl) (by kernel_rfl) (fun _ _ _ h => h) (by rfl) (fun w hSw => ?_) (by assumption) ?_
    rotate_left
    · (try dsimp only at hSw); first | (go_simp; done) | (go_simp; with_reducible rfl)
    simp only [List.setIfInBounds_toArray, List.set_cons_zero, List.set_cons_succ]
    refine heldTake (v := ?_) 1 77 rfl rfl (by kernel_rfl) (by kernel_rfl) (by kernel_rfl) (fun _ _ _ h => h) (by rfl) (fun w hSw => ?_) (by assumption) ?_
    rotate_left
    · (try dsimp only at hSw); first | (go_simp; done) | (go_simp; with_reducible rfl)
    simp only [List.setIfInBounds_toArray, List.set_cons_zero, List.set_cons_succ]
    refine heldTake (v := ?_) 2 78 rfl rfl (by kernel_rfl) (by kernel_rfl) (by kernel_rfl) (fun _ _ _ h => h) (by rfl) (fun w hSw => ?_) (by assumption) ?_
    rotate_left
    · (try dsimp only at hSw); first | (go_simp; done) | (go_simp; with_reducible rfl)
    simp only [List.setIfInBounds_toArray, List.set_cons_zero, List.set_cons_succ]
    refine heldTake (v := ?_) 3 79 rfl rfl (by kernel_rfl) (by kernel_rfl) (by kernel_rfl) (fun _ _ _ h => h) (by rfl) (fun w hSw => ?_) (by assumption) ?_
    rotate_left
    · (try dsimp only at hSw); first | (go_simp; done) | (go_simp; with_reducible rfl)
    simp only [List.setIfInBounds_toArray, List.set_cons_zero, List.set_cons_succ]
    refine heldTake (v := ?_) 4 80 rfl rfl (by kernel_rfl) (by kernel_rfl) (by kernel_rfl) (fun _ _ _ h => h) (by rfl) (fun w hSw => ?_) (by assumption) ?_
    rotate_left
    · (try dsimp only at hSw); first | (go_simp; done) | (go_simp; with_reducible rfl)
    simp only [List.setIfInBounds_toArray, List.set_cons_zero, List.set_cons_succ]
    refine heldTake (v := ?_) 5 81 rfl rfl (by kernel_rfl) (by kernel_rfl) (by kernel_rfl) (fun _ _ _ h => h) (by rfl) (fun w hSw => ?_) (by assumption) ?_
    rotate_left
    · (try dsimp only at hSw); first | (go_simp; done) | (go_simp; with_reducible rfl)
    simp only [List.setIfInBounds_toArray, List.set_cons_zero, List.set_cons_succ]
    refine heldTake (v := ?_) 6 82 rfl rfl (by kernel_rfl) (by kernel_rfl) (by kernel_rfl) (fun _ _ _ h => h) (by rfl) (fun w hSw => ?_) (by assumption) ?_
    rotate_left
    · (try dsimp only at hSw); first | (go_simp; done) | (go_simp; with_reducible rfl)
    simp only [List.setIfInBounds_toArray, List.set_cons_zero, List.set_cons_succ]
    refine heldTake (v := ?_) 7 83 rfl rfl (by kernel_rfl) (by kernel_rfl) (by kernel_rfl) (fun _ _ _ h => h) (by rfl) (fun w hSw => ?_) (by assumption) ?_
    rotate_left
    · (try dsimp only at hSw); first | (go_simp; done) | (go_simp; with_reducible rfl)
    simp only [List.setIfInBounds_toArray, List.set_cons_zero, List.set_cons_succ]
    refine heldTake (v := ?_) 8 84 rfl rfl (by kernel_rfl) (by kernel_rfl) (by kernel_rfl) (fun _ _ _ h => h) (by rfl) (fun w hSw => ?_) (by assumption) ?_
    rotate_left
    · (try dsimp only at hSw); first | (go_simp; done) | (go_simp; with_reducible rfl)
    simp only [List.setIfInBounds_toArray, List.set_cons_zero, List.set_cons_succ]
    refine heldTake (v := ?_) 9 85 rfl rfl (by kernel_rfl) (by kernel_rfl) (by kernel_rfl) (fun _ _ _ h => h) (by rfl) (fun w hSw => ?_) (by assumption) ?_
    rotate_left
    · (try dsimp only at hSw); first | (go_simp; done) | (go_simp; with_reducible rfl)
    simp only [List.setIfInBounds_toArray, List.set_cons_zero, List.set_cons_succ]
    refine heldTake (v := ?_) 10 86 rfl rfl (by kernel_rfl) (by kernel_rfl) (by kernel_rfl) (fun _ _ _ h => h) (by rfl) (fun w hSw => ?_) (by assumption) ?_
    rotate_left
    · (try dsimp only at hSw); first | (go_simp; done) | (go_simp; with_reducible rfl)
    simp only [List.setIfInBounds_toArray, List.set_cons_zero, List.set_cons_succ]
    refine heldTake (v := ?_) 11 87 rfl rfl (by kernel_rfl) (by kernel_rfl) (by kernel_rfl) (fun _ _ _ h => h) (by rfl) (fun w hSw => ?_) (by assumption) ?_
    rotate_left
    · (try dsimp only at hSw); first | (go_simp; done) | (go_simp; with_reducible rfl)
    simp only [List.setIfInBounds_toArray, List.set_cons_zero, List.set_cons_succ]
    refine heldTake (v := ?_) 12 88 rfl rfl (by kernel_rfl) (by kernel_rfl) (by kernel_rfl) (fun _ _ _ h => h) (by rfl) (fun w hSw => ?_) (by assumption) ?_
    rotate_left
    · (try dsimp only at hSw); first | (go_simp; done) | (go_simp; with_reducible rfl)
    simp only [List.setIfInBounds_toArray, List.set_cons_zero, List.set_cons_succ]
    refine heldTake (v := ?_) 13 89 rfl rfl (by kernel_rfl) (by kernel_rfl) (by kernel_rfl) (fun _ _ _ h => h) (by rfl) (fun w hSw => ?_) (by assumption) ?_
    rotate_left
    · (try dsimp only at hSw); first | (go_simp; done) | (go_simp; with_reducible rfl)
    simp only [List.setIfInBounds_toArray, List.set_cons_zero, List.set_cons_succ]
    refine heldTake (v := ?_) 14 90 rfl rfl (by kernel_rfl) (by kernel_rfl) (by kernel_rfl) (fun _ _ _ h => h) (by rfl) (fun w hSw => ?_) (by assumption) ?_
    rotate_left
    · (try dsimp only at hSw); first | (go_simp; done) | (go_simp; with_reducible rfl)
    simp only [List.setIfInBounds_toArray, List.set_cons_zero, List.set_cons_succ]
    refine heldTake (v := ?_) 15 91 rfl rfl (by kernel_rfl) (by kernel_rfl) (by kernel_rfl) (fun _ _ _ h => h) (by rfl) (fun w hSw => ?_) (by assumption) ?_
    rotate_left
    · (try dsimp only at hSw); first | (go_simp; done) | (go_simp; with_reducible rfl)
    simp only [List.setIfInBounds_toArray, List.set_cons_zero, List.set_cons_succ]
    refine heldTake (v := ?_) 16 92 rfl rfl (by kernel_rfl) (by kernel_rfl) (by kernel_rfl) (fun _ _ _ h => h) (by rfl) (fun w hSw => ?_) (by assumption) ?_
    rotate_left
    · (try dsimp only at hSw); first | (go_simp; done) | (go_simp; with_reducible rfl)
    simp only [List.setIfInBounds_toArray, List.set_cons_zero, List.set_cons_succ]
    refine heldTake (v := ?_) 17 93 rfl rfl (by kernel_rfl) (by kernel_rfl) (by kernel_rfl) (fun _ _ _ h => h) (by rfl) (fun w hSw => ?_) (by assumption) ?_
    rotate_left
    · (try dsimp only at hSw); first | (go_simp; done) | (go_simp; with_reducible rfl)
    simp only [List.setIfInBounds_toArray, List.set_cons_zero, List.set_cons_succ]
    refine heldTake (v := ?_) 18 94 rfl rfl (by kernel_rfl) (by kernel_rfl) (by kernel_rfl) (fun _ _ _ h => h) (by rfl) (fun w hSw => ?_) (by assumption) ?_
    rotate_left
    · (try dsimp only at hSw); first | (go_simp; done) | (go_simp; with_reducible rfl)
    simp only [List.setIfInBounds_toArray, List.set_cons_zero, List.set_cons_succ]
    refine heldTake (v := ?_) 19 95 rfl rfl (by kernel_rfl) (by kernel_rfl) (by kernel_rfl) (fun _ _ _ h => h) (by rfl) (fun w hSw => ?_) (by assumption) ?_
    rotate_left
    · (try dsimp only at hSw); first | (go_simp; done) | (go_simp; with_reducible rfl)
    simp only [List.setIfInBounds_toArray, List.set_cons_zero, List.set_cons_succ]
    refine heldOne 20 rfl (by kernel_rfl) (by rfl) (fun K2 hK => ?_)
    go_simp
    refine (CK _).mono ?_
    rintro e wz ⟨rfl, hb⟩
    simp only []
    refine hK.out _ _ ?_ (fun hHeld => ?_)
    · first | exact keepP9 (by assumption) (by assumption) | exact keepP9 (Below.refl _ _).drew (by assumption)
    clear hK K2
    try simp only [List.setIfInBounds_toArray, List.set_cons_zero, List.set_cons_succ]
    refine heldTake (v := ?_) 21 97 rfl rfl (by kernel_rfl) (by kernel_rfl) (by kernel_rfl) (fun _ _ _ h => h) (by rfl) (fun w hSw => ?_) (by assumption) ?_
    rotate_left
    · (try dsimp only at hSw); first | (go_simp; done) | (go_simp; with_reducible rfl)
    simp only [List.setIfInBounds_toArray, List.set_cons_zero, List.set_cons_succ]
    refine heldTake (v := ?_) 22 98 rfl rfl (by kernel_rfl) (by kernel_rfl) (by kernel_rfl) (fun _ _ _ h => h) (by rfl) (fun w hSw => ?_) (by assumption) ?_
    rotate_left
    · (try dsimp only at hSw); first | (go_simp; done) | (go_simp; with_reducible rfl)
    simp only [List.setIfInBounds_toArray, List.set_cons_zero, List.set_cons_succ]
    refine heldTake (v := ?_) 23 99 rfl rfl (by kernel_rfl) (by kernel_rfl) (by kernel_rfl) (fun _ _ _ h => h) (by rfl) (fun w hSw => ?_) (by assumption) ?_
    rotate_left
    · (try dsimp only at hSw); first | (go_simp; done) | (go_simp; with_reducible rfl)
    simp only [List.setIfInBounds_toArray, List.set_cons_zero, List.set_cons_succ]
    refine heldTake (v := ?_) 24 100 rfl rfl (by kernel_rfl) (by kernel_rfl) (by kernel_rfl) (fun _ _ _ h => h) (by rfl) (fun w hSw => ?_) (by assumption) ?_
    rotate_left
    · (try dsimp only at hSw); first | (go_simp; done) | (go_simp; with_reducible rfl)
    simp only [List.setIfInBounds_toArray, List.set_cons_zero, List.set_cons_succ]
    refine heldTake (v := ?_) 25 101 rfl rfl (by kernel_rfl) (by kernel_rfl) (by kernel_rfl) (fun _ _ _ h => h) (by rfl) (fun w hSw => ?_) (by assumption) ?_
    rotate_left
    · (try dsimp only at hSw); first | (go_simp; done) | (go_simp; with_reducible rfl)
    simp only [List.setIfInBounds_toArray, List.set_cons_zero, List.set_cons_succ]
    refine heldTake (v := ?_) 26 102 rfl rfl (by kernel_rfl) (by kernel_rfl) (by kernel_rfl) (fun _ _ _ h => h) (by rfl) (fun w hSw => ?_) (by assumption) ?_
    rotate_left
    · (try dsimp only at hSw); first | (go_simp; done) | (go_simp; with_reducible rfl)
    simp only [List.setIfInBounds_toArray, List.set_cons_zero, List.set_cons_succ]
    refine heldTake (v := ?_) 27 103 rfl rfl (by kernel_rfl) (by kernel_rfl) (by kernel_rfl) (fun _ _ _ h => h) (by rfl) (fun w hSw => ?_) (by assumption) ?_
    rotate_left
    · (try dsimp only at hSw); first | (go_simp; done) | (go_simp; with_reducible rfl)
    simp only [List.setIfInBounds_toArray, List.set_cons_zero, List.set_cons_succ]
    refine heldTake (v := ?_) 29 105 rfl rfl (by kernel_rfl) (by kernel_rfl) (by kernel_rfl) (fun _ _ _ h => h) (by rfl) (fun w hSw => ?_) (by assumption) ?_
    rotate_left
    · (try dsimp only at hSw); first | (go_simp; done) | (go_simp; with_reducible rfl)
    simp only [List.setIfInBounds_toArray, List.set_cons_zero, List.set_cons_succ]
    refine heldTake (v := ?_) 30 106 rfl rfl (by kernel_rfl) (by kernel_rfl) (by kernel_rfl) (fun _ _ _ h => h) (by rfl) (fun w hSw => ?_) (by assumption) ?_
    rotate_left
    · (try dsimp only at hSw); first | (go_simp; done) | (go_simp; with_reducible rfl)
    simp only [List.setIfInBounds_toArray, List.set_cons_zero, List.set_cons_succ]
    refine heldTake (v := ?_) 31 107 rfl rfl (by kernel_rfl) (by kernel_rfl) (by kernel_rfl) (fun _ _ _ h => h) (by rfl) (fun w hSw => ?_) (by assumption) ?_
    rotate_left
    · (try dsimp only at hSw); first | (go_simp; done) | (go_simp; with_reducible rfl)
    simp only [List.setIfInBounds_toArray, List.set_cons_zero, List.set_cons_succ]
    refine heldTake (v := ?_) 32 108 rfl rfl (by kernel_rfl) (by kernel_rfl) (by kernel_rfl) (fun _ _ _ h => h) (by rfl) (fun w hSw => ?_) (by assumption) ?_
    rotate_left
    · (try dsimp only at hSw); first | (go_simp; done) | (go_simp; with_reducible rfl)
    simp only [List.setIfInBounds_toArray, List.set_cons_zero, List.set_cons_succ]
    refine heldTake (v := ?_) 33 109 rfl rfl (by kernel_rfl) (by kernel_rfl) (by kernel_rfl) (fun _ _ _ h => h) (by rfl) (fun w hSw => ?_) (by assumption) ?_
    rotate_left
    · (try dsimp only at hSw); first | (go_simp; done) | (go_simp; with_reducible rfl)
    simp only [List.setIfInBounds_toArray, List.set_cons_zero, List.set_cons_succ]
    refine heldTake (v := ?_) 34 110 rfl rfl (by kernel_rfl) (by kernel_rfl) (by kernel_rfl) (fun _ _ _ h => h) (by rfl) (fun w hSw => ?_) (by assumption) ?_
    rotate_left
    · (try dsimp only at hSw); first | (go_simp; done) | (go_simp; with_reducible rfl)
    simp only [List.setIfInBounds_toArray, List.set_cons_zero, List.set_cons_succ]
    refine heldTake (v := ?_) 35 111 rfl rfl (by kernel_rfl) (by kernel_rfl) (by kernel_rfl) (fun _ _ _ h => h) (by rfl) (fun w hSw => ?_) (by assumption) ?_
    rotate_left
    · (try dsimp only at hSw); first | (go_simp; done) | (go_simp; with_reducible rfl)
    simp only [List.setIfInBounds_toArray, List.set_cons_zero, List.set_cons_succ]
    refine heldTake (v := ?_) 36 112 rfl rfl (by kernel_rfl) (by kernel_rfl) (by kernel_rfl) (fun _ _ _ h => h) (by rfl) (fun w hSw => ?_) (by assumption) ?_
    rotate_left
    · (try dsimp only at hSw); first | (go_simp; done) | (go_simp; with_reducible rfl)
    simp only [List.setIfInBounds_toArray, List.set_cons_zero, List.set_cons_succ]
    refine heldOne 28 rfl (by kernel_rfl) (by rfl) (fun K2 hK => ?_)
    go_simp
    refine (CC _ hHeld.2.2.2.2.2.2.2.2.2.out).mono ?_
    rintro e wz ⟨rfl, hb⟩
    simp only []
    refine hK.out _ _ ?_ (fun hHeld => ?_)
    · first | exact keepP9 (by assumption) (by assumption) | exact keepP9 (Below.refl _ _).drew (by assumption)
    clear hK K2
    try simp only [List.setIfInBounds_toArray, List.set_cons_zero, List.set_cons_succ]
    refine heldOne 37 rfl (by kernel_rfl) (by rfl) (fun K2 hK => ?_)
    go_simp
    refine (CL _).mono ?_
    rintro e wz ⟨rfl, hb⟩
    simp only []
    refine hK.out _ _ ?_ (fun hHeld => ?_)
    · first | exact keepP9 (by assumption) (by assumption) | exact keepP9 (Below.refl _ _).drew (by assumption)
    clear hK K2
    try simp only [List.setIfInBounds_toArray, List.set_cons_zero, List.set_cons_succ]
    refine heldTake (v := ?_) 38 114 rfl rfl (by kernel_rfl) (by kernel_rfl) (by kernel_rfl) (fun _ _ _ h => h) (by rfl) (fun w hSw => ?_) (by assumption) ?_
    rotate_left
    · (try dsimp only at hSw); first | (go_simp; done) | (go_simp; with_reducible rfl)
    simp only [List.setIfInBounds_toArray, List.set_cons_zero, List.set_cons_succ]
    refine heldTake (v := ?_) 39 115 rfl rfl (by kernel_rfl) (by kernel_rfl) (by kernel_rfl) (fun _ _ _ h => h) (by rfl) (fun w hSw => ?_) (by assumption) ?_
    rotate_left
    · (try dsimp only at hSw); first | (go_simp; done) | (go_simp; with_reducible rfl)
    simp only [List.setIfInBounds_toArray, List.set_cons_zero, List.set_cons_succ]
    refine heldTake (v := ?_) 40 116 rfl rfl (by kernel_rfl) (by kernel_rfl) (by kernel_rfl) (fun _ _ _ h => h) (by rfl) (fun w hSw => ?_) (by assumption) ?_
    rotate_left
    · (try dsimp only at hSw); first | (go_simp; done) | (go_simp; with_reducible rfl)
    simp only [List.setIfInBounds_toArray, List.set_cons_zero, List.set_cons_succ]
    refine heldTake (v := ?_) 41 117 rfl rfl (by kernel_rfl) (by kernel_rfl) (by kernel_rfl) (fun _ _ _ h => h) (by rfl) (fun w hSw => ?_) (by assumption) ?_
    rotate_left
    · (try dsimp only at hSw); first | (go_simp; done) | (go_simp; with_reducible rfl)
    simp only [List.setIfInBounds_toArray, List.set_cons_zero, List.set_cons_succ]
    refine heldTake (v := ?_) 42 118 rfl rfl (by kernel_rfl) (by kernel_rfl) (by kernel_rfl) (fun _ _ _ h => h) (by rfl) (fun w hSw => ?_) (by assumption) ?_
    rotate_left
    · (try dsimp only at hSw); first | (go_simp; done) | (go_simp; with_reducible rfl)
    simp only [List.setIfInBounds_toArray, List.set_cons_zero, List.set_cons_succ]
    refine heldTake (v := ?_) 43 119 rfl rfl (by kernel_rfl) (by kernel_rfl) (by kernel_rfl) (fun _ _ _ h => h) (by rfl) (fun w hSw => ?_) (by assumption) ?_
    rotate_left
    · (try dsimp only at hSw); first | (go_simp; done) | (go_simp; with_reducible rfl)
    simp only [List.setIfInBounds_toArray, List.set_cons_zero, List.set_cons_succ]
    refine heldTake (v := ?_) 44 120 rfl rfl (by kernel_rfl) (by kernel_rfl) (by kernel_rfl) (fun _ _ _ h => h) (by rfl) (fun w hSw => ?_) (by assumption) ?_
    rotate_left
    · (try dsimp only at hSw); first | (go_simp; done) | (go_simp; with_reducible rfl)
    simp only [List.setIfInBounds_toArray, List.set_cons_zero, List.set_cons_succ]
    refine heldOne 45 rfl (by kernel_rfl) (by rfl) (fun K2 hK => ?_)
    go_simp
    refine (CI _ hHeld.2.2.2.2.2.2.2.2.2.out).mono ?_
    rintro e wz ⟨rfl, hb⟩
    simp only []
    refine hK.out _ _ ?_ (fun hHeld => ?_)
    · first | exact keepP9 (by assumption) (by assumption) | exact keepP9 (Below.refl _ _).drew (by assumption)
    clear hK K2
    try simp only [List.setIfInBounds_toArray, List.set_cons_zero, List.set_cons_succ]
    refine heldTake (v := ?_) 46 122 rfl rfl (by kernel_rfl) (by kernel_rfl) (by kernel_rfl) (fun _ _ _ h => h) (by rfl) (fun w hSw => ?_) (by assumption) ?_
    rotate_left
    · (try dsimp only at hSw); first | (go_simp; done) | (go_simp; with_reducible rfl)
    simp only [List.setIfInBounds_toArray, List.set_cons_zero, List.set_cons_succ]
    refine heldTake (v := ?_) 47 123 rfl rfl (by kernel_rfl) (by kernel_rfl) (by kernel_rfl) (fun _ _ _ h => h) (by rfl) (fun w hSw => ?_) (by assumption) ?_
    rotate_left
    · (try dsimp only at hSw); first | (go_simp; done) | (go_simp; with_reducible rfl)
    simp only [List.setIfInBounds_toArray, List.set_cons_zero, List.set_cons_succ]
    refine heldTake (v := ?_) 48 124 rfl rfl (by kernel_rfl) (by kernel_rfl) (by kernel_rfl) (fun _ _ _ h => h) (by rfl) (fun w hSw => ?_) (by assumption) ?_
    rotate_left
    · (try dsimp only at hSw); first | (go_simp; done) | (go_simp; with_reducible rfl)
    simp only [List.setIfInBounds_toArray, List.set_cons_zero, List.set_cons_succ]
    refine heldTake (v := ?_) 49 125 rfl rfl (by kernel_rfl) (by kernel_rfl) (by kernel_rfl) (fun _ _ _ h => h) (by rfl) (fun w hSw => ?_) (by assumption) ?_
    rotate_left
    · (try dsimp only at hSw); first | (go_simp; done) | (go_simp; with_reducible rfl)
    simp only [List.setIfInBounds_toArray, List.set_cons_zero, List.set_cons_succ]
    refine heldTake (v := ?_) 50 126 rfl rfl (by kernel_rfl) (by kernel_rfl) (by kernel_rfl) (fun _ _ _ h => h) (by rfl) (fun w hSw => ?_) (by assumption) ?_
    rotate_left
    · (try dsimp only at hSw); first | (go_simp; done) | (go_simp; with_reducible rfl)
    simp only [List.setIfInBounds_toArray, List.set_cons_zero, List.set_cons_succ]
    refine heldOne 51 rfl (by kernel_rfl) (by rfl) (fun K2 hK => ?_)
    go_simp
    refine (CJ _ hHeld.2.2.2.2.2.2.2.2.2.out).mono ?_
    rintro e wz ⟨rfl, hb⟩
    simp only []
    refine hK.out _ _ ?_ (fun hHeld => ?_)
    · first | exact keepP9 (by assumption) (by assumption) | exact keepP9 (Below.refl _ _).drew (by assumption)
    clear hK K2
    try simp only [List.setIfInBounds_toArray, List.set_cons_zero, List.set_cons_succ]
    refine heldTake (v := ?_) 52 128 rfl rfl (by kernel_rfl) (by kernel_rfl) (by kernel_rfl) (fun _ _ _ h => h) (by rfl) (fun w hSw => ?_) (by assumption) ?_
    rotate_left
    · (try dsimp only at hSw); first | (go_simp; done) | (go_simp; with_reducible rfl)
    simp only [List.setIfInBounds_toArray, List.set_cons_zero, List.set_cons_succ]
    refine heldTake (v := ?_) 53 129 rfl rfl (by kernel_rfl) (by kernel_rfl) (by kernel_rfl) (fun _ _ _ h => h) (by rfl) (fun w hSw => ?_) (by assumption) ?_
    rotate_left
    · (try dsimp only at hSw); first | (go_simp; done) | (go_simp; with_reducible rfl)
    simp only [List.setIfInBounds_toArray, List.set_cons_zero, List.set_cons_succ]
    refine heldTake (v := ?_) 54 130 rfl rfl (by kernel_rfl) (by kernel_rfl) (by kernel_rfl) (fun _ _ _ h => h) (by rfl) (fun w hSw => ?_) (by assumption) ?_
    rotate_left
    · (try dsimp only at hSw); first | (go_simp; done) | (go_simp; with_reducible rfl)
    simp only [List.setIfInBounds_toArray, List.set_cons_zero, List.set_cons_succ]
    refine heldOne 55 rfl (by kernel_rfl) (by rfl) (fun K2 hK => ?_)
    go_simp
    refine (CW _).mono ?_
    rintro e wz ⟨rfl, hb⟩
    simp only []
    refine hK.out _ _ ?_ (fun hHeld => ?_)
    · first | exact keepP9 (by assumption) (by assumption) | exact keepP9 (Below.refl _ _).drew (by assumption)
    clear hK K2
    try simp only [List.setIfInBounds_toArray, List.set_cons_zero, List.set_cons_succ]
    refine heldTake (v := ?_) 56 132 rfl rfl (by kernel_rfl) (by kernel_rfl) (by kernel_rfl) (fun _ _ _ h => h) (by rfl) (fun w hSw => ?_) (by assumption) ?_
    rotate_left
    · (try dsimp only at hSw); first | (go_simp; done) | (go_simp; with_reducible rfl)
    simp only [List.setIfInBounds_toArray, List.set_cons_zero, List.set_cons_succ]
    refine heldTake (v := ?_) 57 8 rfl rfl (by kernel_rfl) (by kernel_rfl) (by kernel_rfl) (fun _ _ _ h => h) (by rfl) (fun w hSw => ?_) (by assumption) ?_
    rotate_left
    · (try dsimp only at hSw); first | (go_simp; done) | (go_simp; with_reducible rfl)
    simp only [List.setIfInBounds_toArray, List.set_cons_zero, List.set_cons_succ]
    refine wpAnyH_done (by kernel_rfl) ?_ _
    have HB9 := hHeld.2.2.2.2.2.2.2.2.2
    clear hHeld HS
    go_wp2
    go_ret
    exact ⟨rfl, HB9.out⟩
  | false =>
    go_upto_region 7 with fail
    replace HS : w7.drew.cell? ⟨w.heap.size, 0, none⟩ = some (.int .i64 vk) ∧ w7.drew.cell? ⟨w.heap.size, 1, none⟩ = some (.int .i64 vi) ∧ w7.drew.cell? ⟨w.heap.size, 2, none⟩ = some (.string vs) ∧ w7.drew.cell? ⟨b, off + i * 3, none⟩ = some (.int .i64 u0) ∧ w7.drew.cell? ⟨b, off + i * 3 + 1, none⟩ = some (.int .i64 u1) ∧ w7.drew.cell? ⟨b, off + i * 3 + 2, none⟩ = some (.string u2) ∧ w7.drew.cell? ⟨b, off + j * 3, none⟩ = some (.int .i64 v0) ∧ w7.drew.cell? ⟨b, off + j * 3 + 1, none⟩ = some (.int .i64 v1) ∧ w7.drew.cell? ⟨b, off + j * 3 + 2, none⟩ = some (.string v2) ∧ Hid (Below w.heap.size w w7.drew) := keepP9 (Below.refl _ _).drew HS
    refine wp_region_held_drew (S := (fun w' => w'.cell? ⟨w.heap.size, 0, none⟩ = some (.int .i64 vk) ∧ w'.cell? ⟨w.heap.size, 1, none⟩ = some (.int .i64 vi) ∧ w'.cell? ⟨w.heap.size, 2, none⟩ = some (.string vs) ∧ w'.cell? ⟨b, off + i * 3, none⟩ = some (.int .i64 u0) ∧ w'.cell? ⟨b, off + i * 3 + 1, none⟩ = some (.int .i64 u1) ∧ w'.cell? ⟨b, off + i * 3 + 2, none⟩ = some (.string u2) ∧ w'.cell? ⟨b, off + j * 3, none⟩ = some (.int .i64 v0) ∧ w'.cell? ⟨b, off + j * 3 + 1, none⟩ = some (.int .i64 v1) ∧ w'.cell? ⟨b, off + j * 3 + 2, none⟩ = some (.string v2) ∧ Hid (Below w.heap.size w w'))) (by kernel_rfl) HS (fun hHeld => ?_)
    refine heldTake (v := ?_) 0 76 rfl rfl (by kernel_rfl) (by kernel_rfl) (by kernel_rfl) (fun _ _ _ h => h) (by rfl) (fun w hSw => ?_) (by assumption) ?_
    rotate_left
    · (try dsimp only at hSw); first | (go_simp; done) | (go_simp; with_reducible rfl)
    simp only [List.setIfInBounds_toArray, List.set_cons_zero, List.set_cons_succ]
    refine heldTake (v := ?_) 1 77 rfl rfl (by kernel_rfl) (by kernel_rfl) (by kernel_rfl) (fun _ _ _ h => h) (by rfl) (fun w hSw => ?_) (by assumption) ?_
    rotate_left
    · (try dsimp only at hSw); first | (go_simp; done) | (go_simp; with_reducible rfl)
    simp only [List.setIfInBounds_toArray, List.set_cons_zero, List.set_cons_succ]
    refine heldTake (v := ?_) 2 78 rfl rfl (by kernel_rfl) (by kernel_rfl) (by kernel_rfl) (fun _ _ _ h => h) (by rfl) (fun w hSw => ?_) (by assumption) ?_
    rotate_left
    · (try dsimp only at hSw); first | (go_simp; done) | (go_simp; with_reducible rfl)
    simp only [List.setIfInBounds_toArray, List.set_cons_zero, List.set_cons_succ]
    refine heldTake (v := ?_) 3 79 rfl rfl (by kernel_rfl) (by kernel_rfl) (by kernel_rfl) (fun _ _ _ h => h) (by rfl) (fun w hSw => ?_) (by assumption) ?_
    rotate_left
    · (try dsimp only at hSw); first | (go_simp; done) | (go_simp; with_reducible rfl)
    simp only [List.setIfInBounds_toArray, List.set_cons_zero, List.set_cons_succ]
    refine heldTake (v := ?_) 4 80 rfl rfl (by kernel_rfl) (by kernel_rfl) (by kernel_rfl) (fun _ _ _ h => h) (by rfl) (fun w hSw => ?_) (by assumption) ?_
    rotate_left
    · (try dsimp only at hSw); first | (go_simp; done) | (go_simp; with_reducible rfl)
    simp only [List.setIfInBounds_toArray, List.set_cons_zero, List.set_cons_succ]
    refine heldTake (v := ?_) 5 81 rfl rfl (by kernel_rfl) (by kernel_rfl) (by kernel_rfl) (fun _ _ _ h => h) (by rfl) (fun w hSw => ?_) (by assumption) ?_
    rotate_left
    · (try dsimp only at hSw); first | (go_simp; done) | (go_simp; with_reducible rfl)
    simp only [List.setIfInBounds_toArray, List.set_cons_zero, List.set_cons_succ]
    refine heldTake (v := ?_) 6 82 rfl rfl (by kernel_rfl) (by kernel_rfl) (by kernel_rfl) (fun _ _ _ h => h) (by rfl) (fun w hSw => ?_) (by assumption) ?_
    rotate_left
    · (try dsimp only at hSw); first | (go_simp; done) | (go_simp; with_reducible rfl)
    simp only [List.setIfInBounds_toArray, List.set_cons_zero, List.set_cons_succ]
    refine heldTake (v := ?_) 7 83 rfl rfl (by kernel_rfl) (by kernel_rfl) (by kernel_rfl) (fun _ _ _ h => h) (by rfl) (fun w hSw => ?_) (by assumption) ?_
    rotate_left
    · (try dsimp only at hSw); first | (go_simp; done) | (go_simp; with_reducible rfl)
    simp only [List.setIfInBounds_toArray, List.set_cons_zero, List.set_cons_succ]
    refine heldTake (v := ?_) 8 84 rfl rfl (by kernel_rfl) (by kernel_rfl) (by kernel_rfl) (fun _ _ _ h => h) (by rfl) (fun w hSw => ?_) (by assumption) ?_
    rotate_left
    · (try dsimp only at hSw); first | (go_simp; done) | (go_simp; with_reducible rfl)
    simp only [List.setIfInBounds_toArray, List.set_cons_zero, List.set_cons_succ]
    refine heldSkip 9 85 rfl rfl (by kernel_rfl) (by kernel_rfl) (by kernel_rfl) (fun _ _ _ h => h) (by rfl) (by assumption) ?_
    simp only [List.setIfInBounds_toArray, List.set_cons_zero, List.set_cons_succ]
    refine heldTake (v := ?_) 10 86 rfl rfl (by kernel_rfl) (by kernel_rfl) (by kernel_rfl) (fun _ _ _ h => h) (by rfl) (fun w hSw => ?_) (by assumption) ?_
    rotate_left
    · (try dsimp only at hSw); first | (go_simp; done) | (go_simp; with_reducible rfl)
    simp only [List.setIfInBounds_toArray, List.set_cons_zero, List.set_cons_succ]
    refine heldTake (v := ?_) 11 87 rfl rfl (by kernel_rfl) (by kernel_rfl) (by kernel_rfl) (fun _ _ _ h => h) (by rfl) (fun w hSw => ?_) (by assumption) ?_
    rotate_left
    · (try dsimp only at hSw); first | (go_simp; done) | (go_simp; with_reducible rfl)
    simp only [List.setIfInBounds_toArray, List.set_cons_zero, List.set_cons_succ]
    refine heldTake (v := ?_) 12 88 rfl rfl (by kernel_rfl) (by kernel_rfl) (by kernel_rfl) (fun _ _ _ h => h) (by rfl) (fun w hSw => ?_) (by assumption) ?_
    rotate_left
    · (try dsimp only at hSw); first | (go_simp; done) | (go_simp; with_reducible rfl)
    simp only [List.setIfInBounds_toArray, List.set_cons_zero, List.set_cons_succ]
    refine heldTake (v := ?_) 13 89 rfl rfl (by kernel_rfl) (by kernel_rfl) (by kernel_rfl) (fun _ _ _ h => h) (by rfl) (fun w hSw => ?_) (by assumption) ?_
    rotate_left
    · (try dsimp only at hSw); first | (go_simp; done) | (go_simp; with_reducible rfl)
    simp only [List.setIfInBounds_toArray, List.set_cons_zero, List.set_cons_succ]
    refine heldTake (v := ?_) 14 90 rfl rfl (by kernel_rfl) (by kernel_rfl) (by kernel_rfl) (fun _ _ _ h => h) (by rfl) (fun w hSw => ?_) (by assumption) ?_
    rotate_left
    · (try dsimp only at hSw); first | (go_simp; done) | (go_simp; with_reducible rfl)
    simp only [List.setIfInBounds_toArray, List.set_cons_zero, List.set_cons_succ]
    refine heldTake (v := ?_) 15 91 rfl rfl (by kernel_rfl) (by kernel_rfl) (by kernel_rfl) (fun _ _ _ h => h) (by rfl) (fun w hSw => ?_) (by assumption) ?_
    rotate_left
    · (try dsimp only at hSw); first | (go_simp; done) | (go_simp; with_reducible rfl)
    simp only [List.setIfInBounds_toArray, List.set_cons_zero, List.set_cons_succ]
    refine heldTake (v := ?_) 16 92 rfl rfl (by kernel_rfl) (by kernel_rfl) (by kernel_rfl) (fun _ _ _ h => h) (by rfl) (fun w hSw => ?_) (by assumption) ?_
    rotate_left
    · (try dsimp only at hSw); first | (go_simp; done) | (go_simp; with_reducible rfl)
    simp only [List.setIfInBounds_toArray, List.set_cons_zero, List.set_cons_succ]
    refine heldTake (v := ?_) 17 93 rfl rfl (by kernel_rfl) (by kernel_rfl) (by kernel_rfl) (fun _ _ _ h => h) (by rfl) (fun w hSw => ?_) (by assumption) ?_
    rotate_left
    · (try dsimp only at hSw); first | (go_simp; done) | (go_simp; with_reducible rfl)
    simp only [List.setIfInBounds_toArray, List.set_cons_zero, List.set_cons_succ]
    refine heldTake (v := ?_) 18 94 rfl rfl (by kernel_rfl) (by kernel_rfl) (by kernel_rfl) (fun _ _ _ h => h) (by rfl) (fun w hSw => ?_) (by assumption) ?_
    rotate_left
    · (try dsimp only at hSw); first | (go_simp; done) | (go_simp; with_reducible rfl)
    simp only [List.setIfInBounds_toArray, List.set_cons_zero, List.set_cons_succ]
    refine heldTake (v := ?_) 19 95 rfl rfl (by kernel_rfl) (by kernel_rfl) (by kernel_rfl) (fun _ _ _ h => h) (by rfl) (fun w hSw => ?_) (by assumption) ?_
    rotate_left
    · (try dsimp only at hSw); first | (go_simp; done) | (go_simp; with_reducible rfl)
    simp only [List.setIfInBounds_toArray, List.set_cons_zero, List.set_cons_succ]
    refine heldOne 20 rfl (by kernel_rfl) (by rfl) (fun K2 hK => ?_)
    go_simp
    refine (CK _).mono ?_
    rintro e wz ⟨rfl, hb⟩
    simp only []
    refine hK.out _ _ ?_ (fun hHeld => ?_)
    · first | exact keepP9 (by assumption) (by assumption) | exact keepP9 (Below.refl _ _).drew (by assumption)
    clear hK K2
    try simp only [List.setIfInBounds_toArray, List.set_cons_zero, List.set_cons_succ]
    refine heldTake (v := ?_) 21 97 rfl rfl (by kernel_rfl) (by kernel_rfl) (by kernel_rfl) (fun _ _ _ h => h) (by rfl) (fun w hSw => ?_) (by assumption) ?_
    rotate_left
    · (try dsimp only at hSw); first | (go_simp; done) | (go_simp; with_reducible rfl)
    simp only [List.setIfInBounds_toArray, List.set_cons_zero, List.set_cons_succ]
    refine heldTake (v := ?_) 22 98 rfl rfl (by kernel_rfl) (by kernel_rfl) (by kernel_rfl) (fun _ _ _ h => h) (by rfl) (fun w hSw => ?_) (by assumption) ?_
    rotate_left
    · (try dsimp only at hSw); first | (go_simp; done) | (go_simp; with_reducible rfl)
    simp only [List.setIfInBounds_toArray, List.set_cons_zero, List.set_cons_succ]
    refine heldTake (v := ?_) 23 99 rfl rfl (by kernel_rfl) (by kernel_rfl) (by kernel_rfl) (fun _ _ _ h => h) (by rfl) (fun w hSw => ?_) (by assumption) ?_
    rotate_left
    · (try dsimp only at hSw); first | (go_simp; done) | (go_simp; with_reducible rfl)
    simp only [List.setIfInBounds_toArray, List.set_cons_zero, List.set_cons_succ]
    refine heldTake (v := ?_) 24 100 rfl rfl (by kernel_rfl) (by kernel_rfl) (by kernel_rfl) (fun _ _ _ h => h) (by rfl) (fun w hSw => ?_) (by assumption) ?_
    rotate_left
    · (try dsimp only at hSw); first | (go_simp; done) | (go_simp; with_reducible rfl)
    simp only [List.setIfInBounds_toArray, List.set_cons_zero, List.set_cons_succ]
    refine heldTake (v := ?_) 25 101 rfl rfl (by kernel_rfl) (by kernel_rfl) (by kernel_rfl) (fun _ _ _ h => h) (by rfl) (fun w hSw => ?_) (by assumption) ?_
    rotate_left
    · (try dsimp only at hSw); first | (go_simp; done) | (go_simp; with_reducible rfl)
    simp only [List.setIfInBounds_toArray, List.set_cons_zero, List.set_cons_succ]
    refine heldTake (v := ?_) 26 102 rfl rfl (by kernel_rfl) (by kernel_rfl) (by kernel_rfl) (fun _ _ _ h => h) (by rfl) (fun w hSw => ?_) (by assumption) ?_
    rotate_left
    · (try dsimp only at hSw); first | (go_simp; done) | (go_simp; with_reducible rfl)
    simp only [List.setIfInBounds_toArray, List.set_cons_zero, List.set_cons_succ]
    refine heldTake (v := ?_) 27 103 rfl rfl (by kernel_rfl) (by kernel_rfl) (by kernel_rfl) (fun _ _ _ h => h) (by rfl) (fun w hSw => ?_) (by assumption) ?_
    rotate_left
    · (try dsimp only at hSw); first | (go_simp; done) | (go_simp; with_reducible rfl)
    simp only [List.setIfInBounds_toArray, List.set_cons_zero, List.set_cons_succ]
    refine heldTake (v := ?_) 29 105 rfl rfl (by kernel_rfl) (by kernel_rfl) (by kernel_rfl) (fun _ _ _ h => h) (by rfl) (fun w hSw => ?_) (by assumption) ?_
    rotate_left
    · (try dsimp only at hSw); first | (go_simp; done) | (go_simp; with_reducible rfl)
    simp only [List.setIfInBounds_toArray, List.set_cons_zero, List.set_cons_succ]
    refine heldTake (v := ?_) 30 106 rfl rfl (by kernel_rfl) (by kernel_rfl) (by kernel_rfl) (fun _ _ _ h => h) (by rfl) (fun w hSw => ?_) (by assumption) ?_
    rotate_left
    · (try dsimp only at hSw); first | (go_simp; done) | (go_simp; with_reducible rfl)
    simp only [List.setIfInBounds_toArray, List.set_cons_zero, List.set_cons_succ]
    refine heldTake (v := ?_) 31 107 rfl rfl (by kernel_rfl) (by kernel_rfl) (by kernel_rfl) (fun _ _ _ h => h) (by rfl) (fun w hSw => ?_) (by assumption) ?_
    rotate_left
    · (try dsimp only at hSw); first | (go_simp; done) | (go_simp; with_reducible rfl)
    simp only [List.setIfInBounds_toArray, List.set_cons_zero, List.set_cons_succ]
    refine heldTake (v := ?_) 32 108 rfl rfl (by kernel_rfl) (by kernel_rfl) (by kernel_rfl) (fun _ _ _ h => h) (by rfl) (fun w hSw => ?_) (by assumption) ?_
    rotate_left
    · (try dsimp only at hSw); first | (go_simp; done) | (go_simp; with_reducible rfl)
    simp only [List.setIfInBounds_toArray, List.set_cons_zero, List.set_cons_succ]
    refine heldTake (v := ?_) 33 109 rfl rfl (by kernel_rfl) (by kernel_rfl) (by kernel_rfl) (fun _ _ _ h => h) (by rfl) (fun w hSw => ?_) (by assumption) ?_
    rotate_left
    · (try dsimp only at hSw); first | (go_simp; done) | (go_simp; with_reducible rfl)
    simp only [List.setIfInBounds_toArray, List.set_cons_zero, List.set_cons_succ]
    refine heldTake (v := ?_) 34 110 rfl rfl (by kernel_rfl) (by kernel_rfl) (by kernel_rfl) (fun _ _ _ h => h) (by rfl) (fun w hSw => ?_) (by assumption) ?_
    rotate_left
    · (try dsimp only at hSw); first | (go_simp; done) | (go_simp; with_reducible rfl)
    simp only [List.setIfInBounds_toArray, List.set_cons_zero, List.set_cons_succ]
    refine heldTake (v := ?_) 35 111 rfl rfl (by kernel_rfl) (by kernel_rfl) (by kernel_rfl) (fun _ _ _ h => h) (by rfl) (fun w hSw => ?_) (by assumption) ?_
    rotate_left
    · (try dsimp only at hSw); first | (go_simp; done) | (go_simp; with_reducible rfl)
    simp only [List.setIfInBounds_toArray, List.set_cons_zero, List.set_cons_succ]
    refine heldTake (v := ?_) 36 112 rfl rfl (by kernel_rfl) (by kernel_rfl) (by kernel_rfl) (fun _ _ _ h => h) (by rfl) (fun w hSw => ?_) (by assumption) ?_
    rotate_left
    · (try dsimp only at hSw); first | (go_simp; done) | (go_simp; with_reducible rfl)
    simp only [List.setIfInBounds_toArray, List.set_cons_zero, List.set_cons_succ]
    refine heldOne 28 rfl (by kernel_rfl) (by rfl) (fun K2 hK => ?_)
    go_simp
    refine (CC _ hHeld.2.2.2.2.2.2.2.2.2.out).mono ?_
    rintro e wz ⟨rfl, hb⟩
    simp only []
    refine hK.out _ _ ?_ (fun hHeld => ?_)
    · first | exact keepP9 (by assumption) (by assumption) | exact keepP9 (Below.refl _ _).drew (by assumption)
    clear hK K2
    try simp only [List.setIfInBounds_toArray, List.set_cons_zero, List.set_cons_succ]
    refine heldOne 37 rfl (by kernel_rfl) (by rfl) (fun K2 hK => ?_)
    go_simp
    refine (CL _).mono ?_
    rintro e wz ⟨rfl, hb⟩
    simp only []
    refine hK.out _ _ ?_ (fun hHeld => ?_)
    · first | exact keepP9 (by assumption) (by assumption) | exact keepP9 (Below.refl _ _).drew (by assumption)
    clear hK K2
    try simp only [List.setIfInBounds_toArray, List.set_cons_zero, List.set_cons_succ]
    refine heldTake (v := ?_) 38 114 rfl rfl (by kernel_rfl) (by kernel_rfl) (by kernel_rfl) (fun _ _ _ h => h) (by rfl) (fun w hSw => ?_) (by assumption) ?_
    rotate_left
    · (try dsimp only at hSw); first | (go_simp; done) | (go_simp; with_reducible rfl)
    simp only [List.setIfInBounds_toArray, List.set_cons_zero, List.set_cons_succ]
    refine heldTake (v := ?_) 39 115 rfl rfl (by kernel_rfl) (by kernel_rfl) (by kernel_rfl) (fun _ _ _ h => h) (by rfl) (fun w hSw => ?_) (by assumption) ?_
    rotate_left
    · (try dsimp only at hSw); first | (go_simp; done) | (go_simp; with_reducible rfl)
    simp only [List.setIfInBounds_toArray, List.set_cons_zero, List.set_cons_succ]
    refine heldTake (v := ?_) 40 116 rfl rfl (by kernel_rfl) (by kernel_rfl) (by kernel_rfl) (fun _ _ _ h => h) (by rfl) (fun w hSw => ?_) (by assumption) ?_
    rotate_left
    · (try dsimp only at hSw); first | (go_simp; done) | (go_simp; with_reducible rfl)
    simp only [List.setIfInBounds_toArray, List.set_cons_zero, List.set_cons_succ]
    refine heldTake (v := ?_) 41 117 rfl rfl (by kernel_rfl) (by kernel_rfl) (by kernel_rfl) (fun _ _ _ h => h) (by rfl) (fun w hSw => ?_) (by assumption) ?_
    rotate_left
    · (try dsimp only at hSw); first | (go_simp; done) | (go_simp; with_reducible rfl)
    simp only [List.setIfInBounds_toArray, List.set_cons_zero, List.set_cons_succ]
    refine heldTake (v := ?_) 42 118 rfl rfl (by kernel_rfl) (by kernel_rfl) (by kernel_rfl) (fun _ _ _ h => h) (by rfl) (fun w hSw => ?_) (by assumption) ?_
    rotate_left
    · (try dsimp only at hSw); first | (go_simp; done) | (go_simp; with_reducible rfl)
    simp only [List.setIfInBounds_toArray, List.set_cons_zero, List.set_cons_succ]
    refine heldTake (v := ?_) 43 119 rfl rfl (by kernel_rfl) (by kernel_rfl) (by kernel_rfl) (fun _ _ _ h => h) (by rfl) (fun w hSw => ?_) (by assumption) ?_
    rotate_left
    · (try dsimp only at hSw); first | (go_simp; done) | (go_simp; with_reducible rfl)
    simp only [List.setIfInBounds_toArray, List.set_cons_zero, List.set_cons_succ]
    refine heldTake (v := ?_) 44 120 rfl rfl (by kernel_rfl) (by kernel_rfl) (by kernel_rfl) (fun _ _ _ h => h) (by rfl) (fun w hSw => ?_) (by assumption) ?_
    rotate_left
    · (try dsimp only at hSw); first | (go_simp; done) | (go_simp; with_reducible rfl)
    simp only [List.setIfInBounds_toArray, List.set_cons_zero, List.set_cons_succ]
    refine heldOne 45 rfl (by kernel_rfl) (by rfl) (fun K2 hK => ?_)
    go_simp
    refine (CI _ hHeld.2.2.2.2.2.2.2.2.2.out).mono ?_
    rintro e wz ⟨rfl, hb⟩
    simp only []
    refine hK.out _ _ ?_ (fun hHeld => ?_)
    · first | exact keepP9 (by assumption) (by assumption) | exact keepP9 (Below.refl _ _).drew (by assumption)
    clear hK K2
    try simp only [List.setIfInBounds_toArray, List.set_cons_zero, List.set_cons_succ]
    refine heldTake (v := ?_) 46 122 rfl rfl (by kernel_rfl) (by kernel_rfl) (by kernel_rfl) (fun _ _ _ h => h) (by rfl) (fun w hSw => ?_) (by assumption) ?_
    rotate_left
    · (try dsimp only at hSw); first | (go_simp; done) | (go_simp; with_reducible rfl)
    simp only [List.setIfInBounds_toArray, List.set_cons_zero, List.set_cons_succ]
    refine heldTake (v := ?_) 47 123 rfl rfl (by kernel_rfl) (by kernel_rfl) (by kernel_rfl) (fun _ _ _ h => h) (by rfl) (fun w hSw => ?_) (by assumption) ?_
    rotate_left
    · (try dsimp only at hSw); first | (go_simp; done) | (go_simp; with_reducible rfl)
    simp only [List.setIfInBounds_toArray, List.set_cons_zero, List.set_cons_succ]
    refine heldTake (v := ?_) 48 124 rfl rfl (by kernel_rfl) (by kernel_rfl) (by kernel_rfl) (fun _ _ _ h => h) (by rfl) (fun w hSw => ?_) (by assumption) ?_
    rotate_left
    · (try dsimp only at hSw); first | (go_simp; done) | (go_simp; with_reducible rfl)
    simp only [List.setIfInBounds_toArray, List.set_cons_zero, List.set_cons_succ]
    refine heldTake (v := ?_) 49 125 rfl rfl (by kernel_rfl) (by kernel_rfl) (by kernel_rfl) (fun _ _ _ h => h) (by rfl) (fun w hSw => ?_) (by assumption) ?_
    rotate_left
    · (try dsimp only at hSw); first | (go_simp; done) | (go_simp; with_reducible rfl)
    simp only [List.setIfInBounds_toArray, List.set_cons_zero, List.set_cons_succ]
    refine heldTake (v := ?_) 50 126 rfl rfl (by kernel_rfl) (by kernel_rfl) (by kernel_rfl) (fun _ _ _ h => h) (by rfl) (fun w hSw => ?_) (by assumption) ?_
    rotate_left
    · (try dsimp only at hSw); first | (go_simp; done) | (go_simp; with_reducible rfl)
    simp only [List.setIfInBounds_toArray, List.set_cons_zero, List.set_cons_succ]
    refine heldOne 51 rfl (by kernel_rfl) (by rfl) (fun K2 hK => ?_)
    go_simp
    refine (CJ _ hHeld.2.2.2.2.2.2.2.2.2.out).mono ?_
    rintro e wz ⟨rfl, hb⟩
    simp only []
    refine hK.out _ _ ?_ (fun hHeld => ?_)
    · first | exact keepP9 (by assumption) (by assumption) | exact keepP9 (Below.refl _ _).drew (by assumption)
    clear hK K2
    try simp only [List.setIfInBounds_toArray, List.set_cons_zero, List.set_cons_succ]
    refine heldTake (v := ?_) 52 128 rfl rfl (by kernel_rfl) (by kernel_rfl) (by kernel_rfl) (fun _ _ _ h => h) (by rfl) (fun w hSw => ?_) (by assumption) ?_
    rotate_left
    · (try dsimp only at hSw); first | (go_simp; done) | (go_simp; with_reducible rfl)
    simp only [List.setIfInBounds_toArray, List.set_cons_zero, List.set_cons_succ]
    refine heldTake (v := ?_) 53 129 rfl rfl (by kernel_rfl) (by kernel_rfl) (by kernel_rfl) (fun _ _ _ h => h) (by rfl) (fun w hSw => ?_) (by assumption) ?_
    rotate_left
    · (try dsimp only at hSw); first | (go_simp; done) | (go_simp; with_reducible rfl)
    simp only [List.setIfInBounds_toArray, List.set_cons_zero, List.set_cons_succ]
    refine heldTake (v := ?_) 54 130 rfl rfl (by kernel_rfl) (by kernel_rfl) (by kernel_rfl) (fun _ _ _ h => h) (by rfl) (fun w hSw => ?_) (by assumption) ?_
    rotate_left
    · (try dsimp only at hSw); first | (go_simp; done) | (go_simp; with_reducible rfl)
    simp only [List.setIfInBounds_toArray, List.set_cons_zero, List.set_cons_succ]
    refine heldOne 55 rfl (by kernel_rfl) (by rfl) (fun K2 hK => ?_)
    go_simp
    refine (CW _).mono ?_
    rintro e wz ⟨rfl, hb⟩
    simp only []
    refine hK.out _ _ ?_ (fun hHeld => ?_)
    · first | exact keepP9 (by assumption) (by assumption) | exact keepP9 (Below.refl _ _).drew (by assumption)
    clear hK K2
    try simp only [List.setIfInBounds_toArray, List.set_cons_zero, List.set_cons_succ]
    refine heldTake (v := ?_) 56 132 rfl rfl (by kernel_rfl) (by kernel_rfl) (by kernel_rfl) (fun _ _ _ h => h) (by rfl) (fun w hSw => ?_) (by assumption) ?_
    rotate_left
    · (try dsimp only at hSw); first | (go_simp; done) | (go_simp; with_reducible rfl)
    simp only [List.setIfInBounds_toArray, List.set_cons_zero, List.set_cons_succ]
    refine heldTake (v := ?_) 57 8 rfl rfl (by kernel_rfl) (by kernel_rfl) (by kernel_rfl) (fun _ _ _ h => h) (by rfl) (fun w hSw => ?_) (by assumption) ?_
    rotate_left
    · (try dsimp only at hSw); first | (go_simp; done) | (go_simp; with_reducible rfl)
    simp only [List.setIfInBounds_toArray, List.set_cons_zero, List.set_cons_succ]
    refine wpAnyH_done (by kernel_rfl) ?_ _
    have HB9 := hHeld.2.2.2.2.2.2.2.2.2
    clear hHeld HS
    go_wp2
    go_ret
    exact ⟨rfl, HB9.out⟩

theorem pthree_walk (a : Option Addr) (n cap : Nat) (R : List PV) (x y vk vi : Int) (vs : ByteArray) (w : World) (hv : IsVals w a n cap R) :
    Calls Try.prog 4 #[.slice a n cap, .int .i64 x, .int .i64 y, .agg #[.int .i64 vk, .int .i64 vi, .string vs]] w fun e w' => e = .returned (.bool true) ∧ Below w.heap.size w w' := by
  cases hh : (decide (40 < n) || heavyV R) with
  | true => exact pthree_heavy a n cap R x y vk vi vs w hv hh
  | false =>
    rcases Nat.eq_zero_or_pos n with h0 | h0
    · exact pthree_none a n cap R x y vk vi vs w hv hh h0
    · cases hl : longT [vs] with
      | true => exact pthree_long a n cap R x y vk vi vs w hv hh h0 hl
      | false => exact pthree_some a n cap R x y vk vi vs w hv hh h0 hl

end Go.Proofs.Ytmolklaammfbmaa
