/-
  What the page's Holds answers.
-/
import Derived.Test.YtmolklaammfbmaaRows
import Derived.Test.YtmolklaammfbmaaPHolds
namespace Go.Proofs.Ytmolklaammfbmaa
open Go.RowKit Go.Lib
set_option linter.unusedVariables false

set_option maxRecDepth 100000 in
set_option maxHeartbeats 4000000 in
theorem rHolds_col (x : PPr) (a : Option Addr) (n cap : Nat) (R : List PV) (w : World) (hn : R.length = n) (h4 : n ≤ 65536) (hr : RdV w a R) (hp : placeB x.col n = false) :
    Calls Try.prog 14 #[.agg (cellsP x), .slice a n cap] w fun e w' => e = .returned (.bool (holdsP x R)) ∧ Below w.heap.size w w' := by
  have HN : Hid (R.length = n) := hn
  have HR : Hid (RdV w a R) := hr
  clear hn hr
  have HE : Hid (holdsP x R = false) := holdsP_no (by rw [HN.out]; simp [hasB, hp])
  obtain ⟨k, c, o, vk, vi, vs⟩ := x
  try simp only at hp
  simp only [cellsP]
  have ew := wrap_less n h4
  have ew2 : wrap64 ((n : Int) - 1) = (n : Int) - 1 := IntWalk.wrap64_in _ ⟨by omega, by omega⟩
  go_enter Try.func14, Try.ntmps14
  go_wp2_with fail
  refine (p14Place _ n hp _).mono ?_
  rintro e w4 ⟨rfl, hb⟩
  obtain ⟨c0, c1, c2, c3, c4, c5⟩ := box6 hb
  have HB : Hid (Below w.heap.size w w4) := chain (alloc_below _ _) hb
  clear hb
  go_wp2
  go_ret
  exact ⟨by rw [HE.out]; rfl, HB.out⟩

set_option maxRecDepth 100000 in
set_option maxHeartbeats 4000000 in
theorem rHolds_1 (x : PPr) (a : Option Addr) (n cap : Nat) (R : List PV) (w : World) (hn : R.length = n) (h4 : n ≤ 65536) (hr : RdV w a R) (hk : x.kind = 1) (hp : placeB x.col n = true) :
    Calls Try.prog 14 #[.agg (cellsP x), .slice a n cap] w fun e w' => e = .returned (.bool (holdsP x R)) ∧ Below w.heap.size w w' := by
  have HN : Hid (R.length = n) := hn
  have HR : Hid (RdV w a R) := hr
  clear hn hr
  have hh : hasB x n = true := by simp [hasB, hp, hk, askO]
  have HE := holdsP_1 (R := R) (by rw [HN.out]; exact hh) hk
  obtain ⟨i, hi, hin⟩ := has_col hh
  have hil : i < R.length := by rw [HN.out]; exact hin
  obtain ⟨b, off, rfl, hc⟩ := HR.out (by omega)
  obtain ⟨y0, y1, y2⟩ := hc i hil
  rw [hi, atV_nat R i hil] at HE
  have i0 : (0 : Int) ≤ (i : Int) := by omega
  have i1 : (i : Int) < (n : Int) := by omega
  generalize R[i] = u at *
  obtain ⟨u0, u1, u2⟩ := u
  simp only at y0 y1 y2
  clear hc hil HR hh
  obtain ⟨k, c, o, vk, vi, vs⟩ := x
  try simp only at hk hp hi
  simp only [cellsP]
  subst hi
  subst hk
  have CC := rCompare_any u0 u1 u2 vk vi vs
  obtain ⟨q, hq⟩ : ∃ q, cmpV ⟨u0, u1, u2⟩ ⟨vk, vi, vs⟩ = q := ⟨_, rfl⟩
  rw [hq] at CC HE
  clear hq
  have HE : Hid (holdsP _ R = _) := HE
  have ew := wrap_less n h4
  have ew2 : wrap64 ((n : Int) - 1) = (n : Int) - 1 := IntWalk.wrap64_in _ ⟨by omega, by omega⟩
  go_enter Try.func14, Try.ntmps14
  go_wp2_with fail
  refine (p14Place _ n hp _).mono ?_
  rintro e w4 ⟨rfl, hb⟩
  obtain ⟨c0, c1, c2, c3, c4, c5⟩ := box6 hb
  have HB : Hid (Below w.heap.size w w4) := chain (alloc_below _ _) hb
  clear hb
  replace y0 := cell_later HB.out y0
  replace y1 := cell_later HB.out y1
  replace y2 := cell_later HB.out y2
  obtain ⟨d0, d1, d2⟩ := box3 (Below.refl (w4.alloc (.cells #[.int .i64 u0, .int .i64 u1, .string u2] 23)).heap.size (w4.alloc (.cells #[.int .i64 u0, .int .i64 u1, .string u2] 23)))
  have HA : Hid (Below w4.heap.size w4 (w4.alloc (.cells #[.int .i64 u0, .int .i64 u1, .string u2] 23))) := alloc_below _ _
  have c0' := cell_later HA.out c0
  have c1' := cell_later HA.out c1
  have c2' := cell_later HA.out c2
  have c3' := cell_later HA.out c3
  have c4' := cell_later HA.out c4
  have c5' := cell_later HA.out c5
  clear HA
  have HB5 : Hid (Below w.heap.size w (w4.alloc (.cells #[.int .i64 u0, .int .i64 u1, .string u2] 23))) := chain HB.out (alloc_below _ _)
  go_wp2_with fail
  refine (CC _).mono ?_
  rintro e w6 ⟨rfl, hb⟩
  have HB : Hid (Below w.heap.size w w6) := chain HB5.out hb
  go_wp2
  go_ret
  exact ⟨by rw [HE.out]; rfl, HB.out⟩

set_option maxRecDepth 100000 in
set_option maxHeartbeats 4000000 in
theorem rHolds_2 (x : PPr) (a : Option Addr) (n cap : Nat) (R : List PV) (w : World) (hn : R.length = n) (h4 : n ≤ 65536) (hr : RdV w a R) (hk : x.kind = 2) (hp : placeB x.col n = true) :
    Calls Try.prog 14 #[.agg (cellsP x), .slice a n cap] w fun e w' => e = .returned (.bool (holdsP x R)) ∧ Below w.heap.size w w' := by
  have HN : Hid (R.length = n) := hn
  have HR : Hid (RdV w a R) := hr
  clear hn hr
  have hh : hasB x n = true := by simp [hasB, hp, hk, askO]
  have HE := holdsP_2 (R := R) (by rw [HN.out]; exact hh) hk
  obtain ⟨i, hi, hin⟩ := has_col hh
  have hil : i < R.length := by rw [HN.out]; exact hin
  obtain ⟨b, off, rfl, hc⟩ := HR.out (by omega)
  obtain ⟨y0, y1, y2⟩ := hc i hil
  rw [hi, atV_nat R i hil] at HE
  have i0 : (0 : Int) ≤ (i : Int) := by omega
  have i1 : (i : Int) < (n : Int) := by omega
  generalize R[i] = u at *
  obtain ⟨u0, u1, u2⟩ := u
  simp only at y0 y1 y2
  clear hc hil HR hh
  obtain ⟨k, c, o, vk, vi, vs⟩ := x
  try simp only at hk hp hi
  simp only [cellsP]
  subst hi
  subst hk
  have CC := rCompare_any u0 u1 u2 vk vi vs
  obtain ⟨q, hq⟩ : ∃ q, cmpV ⟨u0, u1, u2⟩ ⟨vk, vi, vs⟩ = q := ⟨_, rfl⟩
  rw [hq] at CC HE
  clear hq
  have HE : Hid (holdsP _ R = _) := HE
  have ew := wrap_less n h4
  have ew2 : wrap64 ((n : Int) - 1) = (n : Int) - 1 := IntWalk.wrap64_in _ ⟨by omega, by omega⟩
  go_enter Try.func14, Try.ntmps14
  go_wp2_with fail
  refine (p14Place _ n hp _).mono ?_
  rintro e w4 ⟨rfl, hb⟩
  obtain ⟨c0, c1, c2, c3, c4, c5⟩ := box6 hb
  have HB : Hid (Below w.heap.size w w4) := chain (alloc_below _ _) hb
  clear hb
  replace y0 := cell_later HB.out y0
  replace y1 := cell_later HB.out y1
  replace y2 := cell_later HB.out y2
  obtain ⟨d0, d1, d2⟩ := box3 (Below.refl (w4.alloc (.cells #[.int .i64 u0, .int .i64 u1, .string u2] 23)).heap.size (w4.alloc (.cells #[.int .i64 u0, .int .i64 u1, .string u2] 23)))
  have HA : Hid (Below w4.heap.size w4 (w4.alloc (.cells #[.int .i64 u0, .int .i64 u1, .string u2] 23))) := alloc_below _ _
  have c0' := cell_later HA.out c0
  have c1' := cell_later HA.out c1
  have c2' := cell_later HA.out c2
  have c3' := cell_later HA.out c3
  have c4' := cell_later HA.out c4
  have c5' := cell_later HA.out c5
  clear HA
  have HB5 : Hid (Below w.heap.size w (w4.alloc (.cells #[.int .i64 u0, .int .i64 u1, .string u2] 23))) := chain HB.out (alloc_below _ _)
  go_wp2_with fail
  refine (CC _).mono ?_
  rintro e w6 ⟨rfl, hb⟩
  have HB : Hid (Below w.heap.size w w6) := chain HB5.out hb
  go_wp2
  go_ret
  exact ⟨by rw [HE.out]; rfl, HB.out⟩

set_option maxRecDepth 100000 in
set_option maxHeartbeats 4000000 in
theorem rHolds_3no (x : PPr) (a : Option Addr) (n cap : Nat) (R : List PV) (w : World) (hn : R.length = n) (h4 : n ≤ 65536) (hr : RdV w a R) (hk : x.kind = 3) (hp : placeB x.col n = true) (hp2 : placeB x.other n = false) :
    Calls Try.prog 14 #[.agg (cellsP x), .slice a n cap] w fun e w' => e = .returned (.bool (holdsP x R)) ∧ Below w.heap.size w w' := by
  have HN : Hid (R.length = n) := hn
  have HR : Hid (RdV w a R) := hr
  clear hn hr
  have HE : Hid (holdsP x R = false) := holdsP_no (by rw [HN.out]; simp [hasB, hp, hp2, hk, askO])
  obtain ⟨i, hi, hin⟩ : ∃ i : Nat, x.col = i ∧ i < n := by
    have h1 := placeB_iff.1 hp
    exact ⟨x.col.toNat, by omega, by omega⟩
  have hil : i < R.length := by rw [HN.out]; exact hin
  obtain ⟨b, off, rfl, hc⟩ := HR.out (by omega)
  obtain ⟨y0, y1, y2⟩ := hc i hil
  have i0 : (0 : Int) ≤ (i : Int) := by omega
  have i1 : (i : Int) < (n : Int) := by omega
  generalize R[i] = u at *
  obtain ⟨u0, u1, u2⟩ := u
  simp only at y0 y1 y2
  clear hc hil HR
  obtain ⟨k, c, o, vk, vi, vs⟩ := x
  try simp only at hk hp hp2 hi
  simp only [cellsP]
  subst hi
  subst hk
  have CP := p14Place _ n hp2
  have ew := wrap_less n h4
  have ew2 : wrap64 ((n : Int) - 1) = (n : Int) - 1 := IntWalk.wrap64_in _ ⟨by omega, by omega⟩
  go_enter Try.func14, Try.ntmps14
  go_wp2_with fail
  refine (p14Place _ n hp _).mono ?_
  rintro e w4 ⟨rfl, hb⟩
  obtain ⟨c0, c1, c2, c3, c4, c5⟩ := box6 hb
  have HB : Hid (Below w.heap.size w w4) := chain (alloc_below _ _) hb
  clear hb
  replace y0 := cell_later HB.out y0
  replace y1 := cell_later HB.out y1
  replace y2 := cell_later HB.out y2
  have HB5 : Hid (Below w.heap.size w (w4.alloc (.cells #[.int .i64 u0, .int .i64 u1, .string u2] 23))) := chain HB.out (alloc_below _ _)
  obtain ⟨d0, d1, d2⟩ := box3 (Below.refl (w4.alloc (.cells #[.int .i64 u0, .int .i64 u1, .string u2] 23)).heap.size (w4.alloc (.cells #[.int .i64 u0, .int .i64 u1, .string u2] 23)))
  have HA : Hid (Below w4.heap.size w4 (w4.alloc (.cells #[.int .i64 u0, .int .i64 u1, .string u2] 23))) := alloc_below _ _
  have c0' := cell_later HA.out c0
  have c1' := cell_later HA.out c1
  have c2' := cell_later HA.out c2
  have c3' := cell_later HA.out c3
  have c4' := cell_later HA.out c4
  have c5' := cell_later HA.out c5
  go_upto_region 10 with fail
  have HS : (w4.alloc (.cells #[.int .i64 u0, .int .i64 u1, .string u2] 23)).drew.cell? ⟨w.heap.size, 0, none⟩ = some (.int .i64 3) ∧ (w4.alloc (.cells #[.int .i64 u0, .int .i64 u1, .string u2] 23)).drew.cell? ⟨w.heap.size, 1, none⟩ = some (.int .i64 i) ∧ (w4.alloc (.cells #[.int .i64 u0, .int .i64 u1, .string u2] 23)).drew.cell? ⟨w.heap.size, 2, none⟩ = some (.int .i64 o) ∧ (w4.alloc (.cells #[.int .i64 u0, .int .i64 u1, .string u2] 23)).drew.cell? ⟨w.heap.size, 3, none⟩ = some (.int .i64 vk) ∧ (w4.alloc (.cells #[.int .i64 u0, .int .i64 u1, .string u2] 23)).drew.cell? ⟨w.heap.size, 4, none⟩ = some (.int .i64 vi) ∧ (w4.alloc (.cells #[.int .i64 u0, .int .i64 u1, .string u2] 23)).drew.cell? ⟨w.heap.size, 5, none⟩ = some (.string vs) ∧ (w4.alloc (.cells #[.int .i64 u0, .int .i64 u1, .string u2] 23)).drew.cell? ⟨w4.heap.size, 0, none⟩ = some (.int .i64 u0) ∧ (w4.alloc (.cells #[.int .i64 u0, .int .i64 u1, .string u2] 23)).drew.cell? ⟨w4.heap.size, 1, none⟩ = some (.int .i64 u1) ∧ (w4.alloc (.cells #[.int .i64 u0, .int .i64 u1, .string u2] 23)).drew.cell? ⟨w4.heap.size, 2, none⟩ = some (.string u2) ∧ Hid (Below w.heap.size w (w4.alloc (.cells #[.int .i64 u0, .int .i64 u1, .string u2] 23)).drew) := keepP9 (Below.refl _ _).drew ⟨c0', c1', c2', c3', c4', c5', d0, d1, d2, HB5⟩
  clear c0 c1 c2 c3 c4 c5 c0' c1' c2' c3' c4' c5' d0 d1 d2 y0 y1 y2 HB HA HB5
  refine wp_region_held_drew (S := (fun w' => w'.cell? ⟨w.heap.size, 0, none⟩ = some (.int .i64 3) ∧ w'.cell? ⟨w.heap.size, 1, none⟩ = some (.int .i64 i) ∧ w'.cell? ⟨w.heap.size, 2, none⟩ = some (.int .i64 o) ∧ w'.cell? ⟨w.heap.size, 3, none⟩ = some (.int .i64 vk) ∧ w'.cell? ⟨w.heap.size, 4, none⟩ = some (.int .i64 vi) ∧ w'.cell? ⟨w.heap.size, 5, none⟩ = some (.string vs) ∧ w'.cell? ⟨w4.heap.size, 0, none⟩ = some (.int .i64 u0) ∧ w'.cell? ⟨w4.heap.size, 1, none⟩ = some (.int .i64 u1) ∧ w'.cell? ⟨w4.heap.size, 2, none⟩ = some (.string u2) ∧ Hid (Below w.heap.size w w'))) (by kernel_rfl) HS (fun hHeld => ?_)
  refine heldTake (v := ?_) 0 36 rfl rfl (by kernel_rfl) (by kernel_rfl) (by kernel_rfl) (fun _ _ _ h => h) (by rfl) (fun w hSw => ?_) (by assumption) ?_
  rotate_left
  · (try dsimp only at hSw); first | (go_simp; done) | (go_simp; with_reducible rfl)
  simp only [List.setIfInBounds_toArray, List.set_cons_zero, List.set_cons_succ]
  refine heldTake (v := ?_) 1 37 rfl rfl (by kernel_rfl) (by kernel_rfl) (by kernel_rfl) (fun _ _ _ h => h) (by rfl) (fun w hSw => ?_) (by assumption) ?_
  rotate_left
  · (try dsimp only at hSw); first | (go_simp; done) | (go_simp; with_reducible rfl)
  simp only [List.setIfInBounds_toArray, List.set_cons_zero, List.set_cons_succ]
  refine heldTake (v := ?_) 2 38 rfl rfl (by kernel_rfl) (by kernel_rfl) (by kernel_rfl) (fun _ _ _ h => h) (by rfl) (fun w hSw => ?_) (by assumption) ?_
  rotate_left
  · (try dsimp only at hSw); first | (go_simp; done) | (go_simp; with_reducible rfl)
  simp only [List.setIfInBounds_toArray, List.set_cons_zero, List.set_cons_succ]
  refine heldTake (v := ?_) 3 39 rfl rfl (by kernel_rfl) (by kernel_rfl) (by kernel_rfl) (fun _ _ _ h => h) (by rfl) (fun w hSw => ?_) (by assumption) ?_
  rotate_left
  · (try dsimp only at hSw); first | (go_simp; done) | (go_simp; with_reducible rfl)
  simp only [List.setIfInBounds_toArray, List.set_cons_zero, List.set_cons_succ]
  refine heldTake (v := ?_) 4 40 rfl rfl (by kernel_rfl) (by kernel_rfl) (by kernel_rfl) (fun _ _ _ h => h) (by rfl) (fun w hSw => ?_) (by assumption) ?_
  rotate_left
  · (try dsimp only at hSw); first | (go_simp; done) | (go_simp; with_reducible rfl)
  simp only [List.setIfInBounds_toArray, List.set_cons_zero, List.set_cons_succ]
  refine heldOne 5 rfl (by kernel_rfl) (by rfl) (fun K2 hK => ?_)
  go_simp
  refine (CP _).mono ?_
  rintro e wz ⟨rfl, hb⟩
  simp only []
  refine hK.out _ _ ?_ (fun hHeld => ?_)
  · first | exact keepP9 (by assumption) (by assumption) | exact keepP9 (Below.refl _ _).drew (by assumption)
  clear hK K2
  try simp only [List.setIfInBounds_toArray, List.set_cons_zero, List.set_cons_succ]
  refine heldTake (v := ?_) 6 42 rfl rfl (by kernel_rfl) (by kernel_rfl) (by kernel_rfl) (fun _ _ _ h => h) (by rfl) (fun w hSw => ?_) (by assumption) ?_
  rotate_left
  · (try dsimp only at hSw); first | (go_simp; done) | (go_simp; with_reducible rfl)
  simp only [List.setIfInBounds_toArray, List.set_cons_zero, List.set_cons_succ]
  refine heldSkip 7 43 rfl rfl (by kernel_rfl) (by kernel_rfl) (by kernel_rfl) (fun _ _ _ h => h) (by rfl) (by assumption) ?_
  simp only [List.setIfInBounds_toArray, List.set_cons_zero, List.set_cons_succ]
  refine heldSkip 8 44 rfl rfl (by kernel_rfl) (by kernel_rfl) (by kernel_rfl) (fun _ _ _ h => h) (by rfl) (by assumption) ?_
  simp only [List.setIfInBounds_toArray, List.set_cons_zero, List.set_cons_succ]
  refine heldSkip 9 45 rfl rfl (by kernel_rfl) (by kernel_rfl) (by kernel_rfl) (fun _ _ _ h => h) (by rfl) (by assumption) ?_
  simp only [List.setIfInBounds_toArray, List.set_cons_zero, List.set_cons_succ]
  refine heldSkip 10 46 rfl rfl (by kernel_rfl) (by kernel_rfl) (by kernel_rfl) (fun _ _ _ h => h) (by rfl) (by assumption) ?_
  simp only [List.setIfInBounds_toArray, List.set_cons_zero, List.set_cons_succ]
  refine heldSkip 11 47 rfl rfl (by kernel_rfl) (by kernel_rfl) (by kernel_rfl) (fun _ _ _ h => h) (by rfl) (by assumption) ?_
  simp only [List.setIfInBounds_toArray, List.set_cons_zero, List.set_cons_succ]
  refine heldSkip 12 48 rfl rfl (by kernel_rfl) (by kernel_rfl) (by kernel_rfl) (fun _ _ _ h => h) (by rfl) (by assumption) ?_
  simp only [List.setIfInBounds_toArray, List.set_cons_zero, List.set_cons_succ]
  refine heldSkip 13 49 rfl rfl (by kernel_rfl) (by kernel_rfl) (by kernel_rfl) (fun _ _ _ h => h) (by rfl) (by assumption) ?_
  simp only [List.setIfInBounds_toArray, List.set_cons_zero, List.set_cons_succ]
  refine heldSkip 14 50 rfl rfl (by kernel_rfl) (by kernel_rfl) (by kernel_rfl) (fun _ _ _ h => h) (by rfl) (by assumption) ?_
  simp only [List.setIfInBounds_toArray, List.set_cons_zero, List.set_cons_succ]
  refine heldTake (v := ?_) 15 51 rfl rfl (by kernel_rfl) (by kernel_rfl) (by kernel_rfl) (fun _ _ _ h => h) (by rfl) (fun w hSw => ?_) (by assumption) ?_
  rotate_left
  · (try dsimp only at hSw); first | (go_simp; done) | (go_simp; with_reducible rfl)
  simp only [List.setIfInBounds_toArray, List.set_cons_zero, List.set_cons_succ]
  refine heldTake (v := ?_) 16 4 rfl rfl (by kernel_rfl) (by kernel_rfl) (by kernel_rfl) (fun _ _ _ h => h) (by rfl) (fun w hSw => ?_) (by assumption) ?_
  rotate_left
  · (try dsimp only at hSw); first | (go_simp; done) | (go_simp; with_reducible rfl)
  simp only [List.setIfInBounds_toArray, List.set_cons_zero, List.set_cons_succ]
  refine wpAnyH_done (by kernel_rfl) ?_ _
  have HB9 : Hid (Below w.heap.size w _) := hHeld.2.2.2.2.2.2.2.2.2
  clear hHeld HS
  go_wp2
  go_ret
  exact ⟨by rw [HE.out]; rfl, HB9.out⟩

set_option maxRecDepth 100000 in
set_option maxHeartbeats 4000000 in
theorem rHolds_3 (x : PPr) (a : Option Addr) (n cap : Nat) (R : List PV) (w : World) (hn : R.length = n) (h4 : n ≤ 65536) (hr : RdV w a R) (hk : x.kind = 3) (hp : placeB x.col n = true) (hp2 : placeB x.other n = true) :
    Calls Try.prog 14 #[.agg (cellsP x), .slice a n cap] w fun e w' => e = .returned (.bool (holdsP x R)) ∧ Below w.heap.size w w' := by
  have HN : Hid (R.length = n) := hn
  have HR : Hid (RdV w a R) := hr
  clear hn hr
  have hh : hasB x n = true := by simp [hasB, hp, hp2]
  have ho : askO x.kind = true := by rw [hk]; rfl
  have HE := holdsP_3 (R := R) (by rw [HN.out]; exact hh) hk
  obtain ⟨i, hi, hin⟩ := has_col hh
  have hil : i < R.length := by rw [HN.out]; exact hin
  obtain ⟨b, off, rfl, hc⟩ := HR.out (by omega)
  obtain ⟨y0, y1, y2⟩ := hc i hil
  rw [hi, atV_nat R i hil] at HE
  have i0 : (0 : Int) ≤ (i : Int) := by omega
  have i1 : (i : Int) < (n : Int) := by omega
  obtain ⟨j, hj, hjn⟩ := has_oth hh ho
  have hjl : j < R.length := by rw [HN.out]; exact hjn
  obtain ⟨z0, z1, z2⟩ := hc j hjl
  rw [hj, atV_nat R j hjl] at HE
  have j0 : (0 : Int) ≤ (j : Int) := by omega
  have j1 : (j : Int) < (n : Int) := by omega
  generalize R[i] = u at *
  generalize R[j] = v at *
  obtain ⟨u0, u1, u2⟩ := u
  obtain ⟨v0, v1, v2⟩ := v
  simp only at y0 y1 y2 z0 z1 z2
  clear hc hil hjl HR hh ho
  obtain ⟨k, c, o, vk, vi, vs⟩ := x
  try simp only at hk hp hp2 hi hj
  simp only [cellsP]
  subst hi
  subst hj
  subst hk
  have CC := rCompare_any u0 u1 u2 v0 v1 v2
  obtain ⟨q, hq⟩ : ∃ q, cmpV ⟨u0, u1, u2⟩ ⟨v0, v1, v2⟩ = q := ⟨_, rfl⟩
  rw [hq] at CC HE
  clear hq
  have HE : Hid (holdsP _ R = _) := HE
  have CP := p14Place _ n hp2
  have ew := wrap_less n h4
  have ew2 : wrap64 ((n : Int) - 1) = (n : Int) - 1 := IntWalk.wrap64_in _ ⟨by omega, by omega⟩
  go_enter Try.func14, Try.ntmps14
  go_wp2_with fail
  refine (p14Place _ n hp _).mono ?_
  rintro e w4 ⟨rfl, hb⟩
  obtain ⟨c0, c1, c2, c3, c4, c5⟩ := box6 hb
  have HB : Hid (Below w.heap.size w w4) := chain (alloc_below _ _) hb
  clear hb
  replace y0 := cell_later HB.out y0
  replace y1 := cell_later HB.out y1
  replace y2 := cell_later HB.out y2
  have HB5 : Hid (Below w.heap.size w (w4.alloc (.cells #[.int .i64 u0, .int .i64 u1, .string u2] 23))) := chain HB.out (alloc_below _ _)
  obtain ⟨d0, d1, d2⟩ := box3 (Below.refl (w4.alloc (.cells #[.int .i64 u0, .int .i64 u1, .string u2] 23)).heap.size (w4.alloc (.cells #[.int .i64 u0, .int .i64 u1, .string u2] 23)))
  replace z0 := cell_later HB5.out z0
  replace z1 := cell_later HB5.out z1
  replace z2 := cell_later HB5.out z2
  have HA : Hid (Below w4.heap.size w4 (w4.alloc (.cells #[.int .i64 u0, .int .i64 u1, .string u2] 23))) := alloc_below _ _
  have c0' := cell_later HA.out c0
  have c1' := cell_later HA.out c1
  have c2' := cell_later HA.out c2
  have c3' := cell_later HA.out c3
  have c4' := cell_later HA.out c4
  have c5' := cell_later HA.out c5
  go_upto_region 10 with fail
  have HS : (w4.alloc (.cells #[.int .i64 u0, .int .i64 u1, .string u2] 23)).drew.cell? ⟨w.heap.size, 0, none⟩ = some (.int .i64 3) ∧ (w4.alloc (.cells #[.int .i64 u0, .int .i64 u1, .string u2] 23)).drew.cell? ⟨w.heap.size, 1, none⟩ = some (.int .i64 i) ∧ (w4.alloc (.cells #[.int .i64 u0, .int .i64 u1, .string u2] 23)).drew.cell? ⟨w.heap.size, 2, none⟩ = some (.int .i64 j) ∧ (w4.alloc (.cells #[.int .i64 u0, .int .i64 u1, .string u2] 23)).drew.cell? ⟨w.heap.size, 3, none⟩ = some (.int .i64 vk) ∧ (w4.alloc (.cells #[.int .i64 u0, .int .i64 u1, .string u2] 23)).drew.cell? ⟨w.heap.size, 4, none⟩ = some (.int .i64 vi) ∧ (w4.alloc (.cells #[.int .i64 u0, .int .i64 u1, .string u2] 23)).drew.cell? ⟨w.heap.size, 5, none⟩ = some (.string vs) ∧ (w4.alloc (.cells #[.int .i64 u0, .int .i64 u1, .string u2] 23)).drew.cell? ⟨w4.heap.size, 0, none⟩ = some (.int .i64 u0) ∧ (w4.alloc (.cells #[.int .i64 u0, .int .i64 u1, .string u2] 23)).drew.cell? ⟨w4.heap.size, 1, none⟩ = some (.int .i64 u1) ∧ (w4.alloc (.cells #[.int .i64 u0, .int .i64 u1, .string u2] 23)).drew.cell? ⟨w4.heap.size, 2, none⟩ = some (.string u2) ∧ (w4.alloc (.cells #[.int .i64 u0, .int .i64 u1, .string u2] 23)).drew.cell? ⟨b, off + j * 3, none⟩ = some (.int .i64 v0) ∧ (w4.alloc (.cells #[.int .i64 u0, .int .i64 u1, .string u2] 23)).drew.cell? ⟨b, off + j * 3 + 1, none⟩ = some (.int .i64 v1) ∧ (w4.alloc (.cells #[.int .i64 u0, .int .i64 u1, .string u2] 23)).drew.cell? ⟨b, off + j * 3 + 2, none⟩ = some (.string v2) ∧ Hid (Below w.heap.size w (w4.alloc (.cells #[.int .i64 u0, .int .i64 u1, .string u2] 23)).drew) := keepP12 (Below.refl _ _).drew ⟨c0', c1', c2', c3', c4', c5', d0, d1, d2, z0, z1, z2, HB5⟩
  clear c0 c1 c2 c3 c4 c5 c0' c1' c2' c3' c4' c5' d0 d1 d2 y0 y1 y2 z0 z1 z2 HB HA HB5
  refine wp_region_held_drew (S := (fun w' => w'.cell? ⟨w.heap.size, 0, none⟩ = some (.int .i64 3) ∧ w'.cell? ⟨w.heap.size, 1, none⟩ = some (.int .i64 i) ∧ w'.cell? ⟨w.heap.size, 2, none⟩ = some (.int .i64 j) ∧ w'.cell? ⟨w.heap.size, 3, none⟩ = some (.int .i64 vk) ∧ w'.cell? ⟨w.heap.size, 4, none⟩ = some (.int .i64 vi) ∧ w'.cell? ⟨w.heap.size, 5, none⟩ = some (.string vs) ∧ w'.cell? ⟨w4.heap.size, 0, none⟩ = some (.int .i64 u0) ∧ w'.cell? ⟨w4.heap.size, 1, none⟩ = some (.int .i64 u1) ∧ w'.cell? ⟨w4.heap.size, 2, none⟩ = some (.string u2) ∧ w'.cell? ⟨b, off + j * 3, none⟩ = some (.int .i64 v0) ∧ w'.cell? ⟨b, off + j * 3 + 1, none⟩ = some (.int .i64 v1) ∧ w'.cell? ⟨b, off + j * 3 + 2, none⟩ = some (.string v2) ∧ Hid (Below w.heap.size w w'))) (by kernel_rfl) HS (fun hHeld => ?_)
  refine heldTake (v := ?_) 0 36 rfl rfl (by kernel_rfl) (by kernel_rfl) (by kernel_rfl) (fun _ _ _ h => h) (by rfl) (fun w hSw => ?_) (by assumption) ?_
  rotate_left
  · (try dsimp only at hSw); first | (go_simp; done) | (go_simp; with_reducible rfl)
  simp only [List.setIfInBounds_toArray, List.set_cons_zero, List.set_cons_succ]
  refine heldTake (v := ?_) 1 37 rfl rfl (by kernel_rfl) (by kernel_rfl) (by kernel_rfl) (fun _ _ _ h => h) (by rfl) (fun w hSw => ?_) (by assumption) ?_
  rotate_left
  · (try dsimp only at hSw); first | (go_simp; done) | (go_simp; with_reducible rfl)
  simp only [List.setIfInBounds_toArray, List.set_cons_zero, List.set_cons_succ]
  refine heldTake (v := ?_) 2 38 rfl rfl (by kernel_rfl) (by kernel_rfl) (by kernel_rfl) (fun _ _ _ h => h) (by rfl) (fun w hSw => ?_) (by assumption) ?_
  rotate_left
  · (try dsimp only at hSw); first | (go_simp; done) | (go_simp; with_reducible rfl)
  simp only [List.setIfInBounds_toArray, List.set_cons_zero, List.set_cons_succ]
  refine heldTake (v := ?_) 3 39 rfl rfl (by kernel_rfl) (by kernel_rfl) (by kernel_rfl) (fun _ _ _ h => h) (by rfl) (fun w hSw => ?_) (by assumption) ?_
  rotate_left
  · (try dsimp only at hSw); first | (go_simp; done) | (go_simp; with_reducible rfl)
  simp only [List.setIfInBounds_toArray, List.set_cons_zero, List.set_cons_succ]
  refine heldTake (v := ?_) 4 40 rfl rfl (by kernel_rfl) (by kernel_rfl) (by kernel_rfl) (fun _ _ _ h => h) (by rfl) (fun w hSw => ?_) (by assumption) ?_
  rotate_left
  · (try dsimp only at hSw); first | (go_simp; done) | (go_simp; with_reducible rfl)
  simp only [List.setIfInBounds_toArray, List.set_cons_zero, List.set_cons_succ]
  refine heldOne 5 rfl (by kernel_rfl) (by rfl) (fun K2 hK => ?_)
  go_simp
  refine (CP _).mono ?_
  rintro e wz ⟨rfl, hb⟩
  simp only []
  refine hK.out _ _ ?_ (fun hHeld => ?_)
  · first | exact keepP12 (by assumption) (by assumption) | exact keepP12 (Below.refl _ _).drew (by assumption)
  clear hK K2
  try simp only [List.setIfInBounds_toArray, List.set_cons_zero, List.set_cons_succ]
  refine heldTake (v := ?_) 6 42 rfl rfl (by kernel_rfl) (by kernel_rfl) (by kernel_rfl) (fun _ _ _ h => h) (by rfl) (fun w hSw => ?_) (by assumption) ?_
  rotate_left
  · (try dsimp only at hSw); first | (go_simp; done) | (go_simp; with_reducible rfl)
  simp only [List.setIfInBounds_toArray, List.set_cons_zero, List.set_cons_succ]
  refine heldTake (v := ?_) 7 43 rfl rfl (by kernel_rfl) (by kernel_rfl) (by kernel_rfl) (fun _ _ _ h => h) (by rfl) (fun w hSw => ?_) (by assumption) ?_
  rotate_left
  · (try dsimp only at hSw); first | (go_simp; done) | (go_simp; with_reducible rfl)
  simp only [List.setIfInBounds_toArray, List.set_cons_zero, List.set_cons_succ]
  refine heldTake (v := ?_) 8 44 rfl rfl (by kernel_rfl) (by kernel_rfl) (by kernel_rfl) (fun _ _ _ h => h) (by rfl) (fun w hSw => ?_) (by assumption) ?_
  rotate_left
  · (try dsimp only at hSw); first | (go_simp; done) | (go_simp; with_reducible rfl)
  simp only [List.setIfInBounds_toArray, List.set_cons_zero, List.set_cons_succ]
  refine heldTake (v := ?_) 9 45 rfl rfl (by kernel_rfl) (by kernel_rfl) (by kernel_rfl) (fun _ _ _ h => h) (by rfl) (fun w hSw => ?_) (by assumption) ?_
  rotate_left
  · (try dsimp only at hSw); first | (go_simp; done) | (go_simp; with_reducible rfl)
  simp only [List.setIfInBounds_toArray, List.set_cons_zero, List.set_cons_succ]
  refine heldTake (v := ?_) 10 46 rfl rfl (by kernel_rfl) (by kernel_rfl) (by kernel_rfl) (fun _ _ _ h => h) (by rfl) (fun w hSw => ?_) (by assumption) ?_
  rotate_left
  · (try dsimp only at hSw); first | (go_simp; done) | (go_simp; with_reducible rfl)
  simp only [List.setIfInBounds_toArray, List.set_cons_zero, List.set_cons_succ]
  refine heldTake (v := ?_) 11 47 rfl rfl (by kernel_rfl) (by kernel_rfl) (by kernel_rfl) (fun _ _ _ h => h) (by rfl) (fun w hSw => ?_) (by assumption) ?_
  rotate_left
  · (try dsimp only at hSw); first | (go_simp; done) | (go_simp; with_reducible rfl)
  simp only [List.setIfInBounds_toArray, List.set_cons_zero, List.set_cons_succ]
  refine heldTake (v := ?_) 12 48 rfl rfl (by kernel_rfl) (by kernel_rfl) (by kernel_rfl) (fun _ _ _ h => h) (by rfl) (fun w hSw => ?_) (by assumption) ?_
  rotate_left
  · (try dsimp only at hSw); first | (go_simp; done) | (go_simp; with_reducible rfl)
  simp only [List.setIfInBounds_toArray, List.set_cons_zero, List.set_cons_succ]
  refine heldOne 13 rfl (by kernel_rfl) (by rfl) (fun K2 hK => ?_)
  go_simp
  refine (CC _).mono ?_
  rintro e wz ⟨rfl, hb⟩
  simp only []
  refine hK.out _ _ ?_ (fun hHeld => ?_)
  · first | exact keepP12 (by assumption) (by assumption) | exact keepP12 (Below.refl _ _).drew (by assumption)
  clear hK K2
  try simp only [List.setIfInBounds_toArray, List.set_cons_zero, List.set_cons_succ]
  refine heldTake (v := ?_) 14 50 rfl rfl (by kernel_rfl) (by kernel_rfl) (by kernel_rfl) (fun _ _ _ h => h) (by rfl) (fun w hSw => ?_) (by assumption) ?_
  rotate_left
  · (try dsimp only at hSw); first | (go_simp; done) | (go_simp; with_reducible rfl)
  simp only [List.setIfInBounds_toArray, List.set_cons_zero, List.set_cons_succ]
  refine heldTake (v := ?_) 15 51 rfl rfl (by kernel_rfl) (by kernel_rfl) (by kernel_rfl) (fun _ _ _ h => h) (by rfl) (fun w hSw => ?_) (by assumption) ?_
  rotate_left
  · (try dsimp only at hSw); first | (go_simp; done) | (go_simp; with_reducible rfl)
  simp only [List.setIfInBounds_toArray, List.set_cons_zero, List.set_cons_succ]
  refine heldTake (v := ?_) 16 4 rfl rfl (by kernel_rfl) (by kernel_rfl) (by kernel_rfl) (fun _ _ _ h => h) (by rfl) (fun w hSw => ?_) (by assumption) ?_
  rotate_left
  · (try dsimp only at hSw); first | (go_simp; done) | (go_simp; with_reducible rfl)
  simp only [List.setIfInBounds_toArray, List.set_cons_zero, List.set_cons_succ]
  refine wpAnyH_done (by kernel_rfl) ?_ _
  have HB9 : Hid (Below w.heap.size w _) := hHeld.2.2.2.2.2.2.2.2.2.2.2.2
  clear hHeld HS
  go_wp2
  go_ret
  exact ⟨by rw [HE.out]; rfl, HB9.out⟩

set_option maxRecDepth 100000 in
set_option maxHeartbeats 4000000 in
theorem rHolds_4no (x : PPr) (a : Option Addr) (n cap : Nat) (R : List PV) (w : World) (hn : R.length = n) (h4 : n ≤ 65536) (hr : RdV w a R) (hk : x.kind = 4) (hp : placeB x.col n = true) (hp2 : placeB x.other n = false) :
    Calls Try.prog 14 #[.agg (cellsP x), .slice a n cap] w fun e w' => e = .returned (.bool (holdsP x R)) ∧ Below w.heap.size w w' := by
  have HN : Hid (R.length = n) := hn
  have HR : Hid (RdV w a R) := hr
  clear hn hr
  have HE : Hid (holdsP x R = false) := holdsP_no (by rw [HN.out]; simp [hasB, hp, hp2, hk, askO])
  obtain ⟨i, hi, hin⟩ : ∃ i : Nat, x.col = i ∧ i < n := by
    have h1 := placeB_iff.1 hp
    exact ⟨x.col.toNat, by omega, by omega⟩
  have hil : i < R.length := by rw [HN.out]; exact hin
  obtain ⟨b, off, rfl, hc⟩ := HR.out (by omega)
  obtain ⟨y0, y1, y2⟩ := hc i hil
  have i0 : (0 : Int) ≤ (i : Int) := by omega
  have i1 : (i : Int) < (n : Int) := by omega
  generalize R[i] = u at *
  obtain ⟨u0, u1, u2⟩ := u
  simp only at y0 y1 y2
  clear hc hil HR
  obtain ⟨k, c, o, vk, vi, vs⟩ := x
  try simp only at hk hp hp2 hi
  simp only [cellsP]
  subst hi
  subst hk
  have CP := p14Place _ n hp2
  have ew := wrap_less n h4
  have ew2 : wrap64 ((n : Int) - 1) = (n : Int) - 1 := IntWalk.wrap64_in _ ⟨by omega, by omega⟩
  go_enter Try.func14, Try.ntmps14
  go_wp2_with fail
  refine (p14Place _ n hp _).mono ?_
  rintro e w4 ⟨rfl, hb⟩
  obtain ⟨c0, c1, c2, c3, c4, c5⟩ := box6 hb
  have HB : Hid (Below w.heap.size w w4) := chain (alloc_below _ _) hb
  clear hb
  replace y0 := cell_later HB.out y0
  replace y1 := cell_later HB.out y1
  replace y2 := cell_later HB.out y2
  have HB5 : Hid (Below w.heap.size w (w4.alloc (.cells #[.int .i64 u0, .int .i64 u1, .string u2] 23))) := chain HB.out (alloc_below _ _)
  obtain ⟨d0, d1, d2⟩ := box3 (Below.refl (w4.alloc (.cells #[.int .i64 u0, .int .i64 u1, .string u2] 23)).heap.size (w4.alloc (.cells #[.int .i64 u0, .int .i64 u1, .string u2] 23)))
  have HA : Hid (Below w4.heap.size w4 (w4.alloc (.cells #[.int .i64 u0, .int .i64 u1, .string u2] 23))) := alloc_below _ _
  have c0' := cell_later HA.out c0
  have c1' := cell_later HA.out c1
  have c2' := cell_later HA.out c2
  have c3' := cell_later HA.out c3
  have c4' := cell_later HA.out c4
  have c5' := cell_later HA.out c5
  go_upto_region 12 with fail
  have HS : (w4.alloc (.cells #[.int .i64 u0, .int .i64 u1, .string u2] 23)).drew.cell? ⟨w.heap.size, 0, none⟩ = some (.int .i64 4) ∧ (w4.alloc (.cells #[.int .i64 u0, .int .i64 u1, .string u2] 23)).drew.cell? ⟨w.heap.size, 1, none⟩ = some (.int .i64 i) ∧ (w4.alloc (.cells #[.int .i64 u0, .int .i64 u1, .string u2] 23)).drew.cell? ⟨w.heap.size, 2, none⟩ = some (.int .i64 o) ∧ (w4.alloc (.cells #[.int .i64 u0, .int .i64 u1, .string u2] 23)).drew.cell? ⟨w.heap.size, 3, none⟩ = some (.int .i64 vk) ∧ (w4.alloc (.cells #[.int .i64 u0, .int .i64 u1, .string u2] 23)).drew.cell? ⟨w.heap.size, 4, none⟩ = some (.int .i64 vi) ∧ (w4.alloc (.cells #[.int .i64 u0, .int .i64 u1, .string u2] 23)).drew.cell? ⟨w.heap.size, 5, none⟩ = some (.string vs) ∧ (w4.alloc (.cells #[.int .i64 u0, .int .i64 u1, .string u2] 23)).drew.cell? ⟨w4.heap.size, 0, none⟩ = some (.int .i64 u0) ∧ (w4.alloc (.cells #[.int .i64 u0, .int .i64 u1, .string u2] 23)).drew.cell? ⟨w4.heap.size, 1, none⟩ = some (.int .i64 u1) ∧ (w4.alloc (.cells #[.int .i64 u0, .int .i64 u1, .string u2] 23)).drew.cell? ⟨w4.heap.size, 2, none⟩ = some (.string u2) ∧ Hid (Below w.heap.size w (w4.alloc (.cells #[.int .i64 u0, .int .i64 u1, .string u2] 23)).drew) := keepP9 (Below.refl _ _).drew ⟨c0', c1', c2', c3', c4', c5', d0, d1, d2, HB5⟩
  clear c0 c1 c2 c3 c4 c5 c0' c1' c2' c3' c4' c5' d0 d1 d2 y0 y1 y2 HB HA HB5
  refine wp_region_held_drew (S := (fun w' => w'.cell? ⟨w.heap.size, 0, none⟩ = some (.int .i64 4) ∧ w'.cell? ⟨w.heap.size, 1, none⟩ = some (.int .i64 i) ∧ w'.cell? ⟨w.heap.size, 2, none⟩ = some (.int .i64 o) ∧ w'.cell? ⟨w.heap.size, 3, none⟩ = some (.int .i64 vk) ∧ w'.cell? ⟨w.heap.size, 4, none⟩ = some (.int .i64 vi) ∧ w'.cell? ⟨w.heap.size, 5, none⟩ = some (.string vs) ∧ w'.cell? ⟨w4.heap.size, 0, none⟩ = some (.int .i64 u0) ∧ w'.cell? ⟨w4.heap.size, 1, none⟩ = some (.int .i64 u1) ∧ w'.cell? ⟨w4.heap.size, 2, none⟩ = some (.string u2) ∧ Hid (Below w.heap.size w w'))) (by kernel_rfl) HS (fun hHeld => ?_)
  refine heldTake (v := ?_) 0 54 rfl rfl (by kernel_rfl) (by kernel_rfl) (by kernel_rfl) (fun _ _ _ h => h) (by rfl) (fun w hSw => ?_) (by assumption) ?_
  rotate_left
  · (try dsimp only at hSw); first | (go_simp; done) | (go_simp; with_reducible rfl)
  simp only [List.setIfInBounds_toArray, List.set_cons_zero, List.set_cons_succ]
  refine heldTake (v := ?_) 1 55 rfl rfl (by kernel_rfl) (by kernel_rfl) (by kernel_rfl) (fun _ _ _ h => h) (by rfl) (fun w hSw => ?_) (by assumption) ?_
  rotate_left
  · (try dsimp only at hSw); first | (go_simp; done) | (go_simp; with_reducible rfl)
  simp only [List.setIfInBounds_toArray, List.set_cons_zero, List.set_cons_succ]
  refine heldTake (v := ?_) 2 56 rfl rfl (by kernel_rfl) (by kernel_rfl) (by kernel_rfl) (fun _ _ _ h => h) (by rfl) (fun w hSw => ?_) (by assumption) ?_
  rotate_left
  · (try dsimp only at hSw); first | (go_simp; done) | (go_simp; with_reducible rfl)
  simp only [List.setIfInBounds_toArray, List.set_cons_zero, List.set_cons_succ]
  refine heldTake (v := ?_) 3 57 rfl rfl (by kernel_rfl) (by kernel_rfl) (by kernel_rfl) (fun _ _ _ h => h) (by rfl) (fun w hSw => ?_) (by assumption) ?_
  rotate_left
  · (try dsimp only at hSw); first | (go_simp; done) | (go_simp; with_reducible rfl)
  simp only [List.setIfInBounds_toArray, List.set_cons_zero, List.set_cons_succ]
  refine heldTake (v := ?_) 4 58 rfl rfl (by kernel_rfl) (by kernel_rfl) (by kernel_rfl) (fun _ _ _ h => h) (by rfl) (fun w hSw => ?_) (by assumption) ?_
  rotate_left
  · (try dsimp only at hSw); first | (go_simp; done) | (go_simp; with_reducible rfl)
  simp only [List.setIfInBounds_toArray, List.set_cons_zero, List.set_cons_succ]
  refine heldOne 5 rfl (by kernel_rfl) (by rfl) (fun K2 hK => ?_)
  go_simp
  refine (CP _).mono ?_
  rintro e wz ⟨rfl, hb⟩
  simp only []
  refine hK.out _ _ ?_ (fun hHeld => ?_)
  · first | exact keepP9 (by assumption) (by assumption) | exact keepP9 (Below.refl _ _).drew (by assumption)
  clear hK K2
  try simp only [List.setIfInBounds_toArray, List.set_cons_zero, List.set_cons_succ]
  refine heldTake (v := ?_) 6 60 rfl rfl (by kernel_rfl) (by kernel_rfl) (by kernel_rfl) (fun _ _ _ h => h) (by rfl) (fun w hSw => ?_) (by assumption) ?_
  rotate_left
  · (try dsimp only at hSw); first | (go_simp; done) | (go_simp; with_reducible rfl)
  simp only [List.setIfInBounds_toArray, List.set_cons_zero, List.set_cons_succ]
  refine heldSkip 7 61 rfl rfl (by kernel_rfl) (by kernel_rfl) (by kernel_rfl) (fun _ _ _ h => h) (by rfl) (by assumption) ?_
  simp only [List.setIfInBounds_toArray, List.set_cons_zero, List.set_cons_succ]
  refine heldSkip 8 62 rfl rfl (by kernel_rfl) (by kernel_rfl) (by kernel_rfl) (fun _ _ _ h => h) (by rfl) (by assumption) ?_
  simp only [List.setIfInBounds_toArray, List.set_cons_zero, List.set_cons_succ]
  refine heldSkip 9 63 rfl rfl (by kernel_rfl) (by kernel_rfl) (by kernel_rfl) (fun _ _ _ h => h) (by rfl) (by assumption) ?_
  simp only [List.setIfInBounds_toArray, List.set_cons_zero, List.set_cons_succ]
  refine heldSkip 10 64 rfl rfl (by kernel_rfl) (by kernel_rfl) (by kernel_rfl) (fun _ _ _ h => h) (by rfl) (by assumption) ?_
  simp only [List.setIfInBounds_toArray, List.set_cons_zero, List.set_cons_succ]
  refine heldSkip 11 65 rfl rfl (by kernel_rfl) (by kernel_rfl) (by kernel_rfl) (fun _ _ _ h => h) (by rfl) (by assumption) ?_
  simp only [List.setIfInBounds_toArray, List.set_cons_zero, List.set_cons_succ]
  refine heldSkip 12 66 rfl rfl (by kernel_rfl) (by kernel_rfl) (by kernel_rfl) (fun _ _ _ h => h) (by rfl) (by assumption) ?_
  simp only [List.setIfInBounds_toArray, List.set_cons_zero, List.set_cons_succ]
  refine heldSkip 13 67 rfl rfl (by kernel_rfl) (by kernel_rfl) (by kernel_rfl) (fun _ _ _ h => h) (by rfl) (by assumption) ?_
  simp only [List.setIfInBounds_toArray, List.set_cons_zero, List.set_cons_succ]
  refine heldSkip 14 68 rfl rfl (by kernel_rfl) (by kernel_rfl) (by kernel_rfl) (fun _ _ _ h => h) (by rfl) (by assumption) ?_
  simp only [List.setIfInBounds_toArray, List.set_cons_zero, List.set_cons_succ]
  refine heldTake (v := ?_) 15 69 rfl rfl (by kernel_rfl) (by kernel_rfl) (by kernel_rfl) (fun _ _ _ h => h) (by rfl) (fun w hSw => ?_) (by assumption) ?_
  rotate_left
  · (try dsimp only at hSw); first | (go_simp; done) | (go_simp; with_reducible rfl)
  simp only [List.setIfInBounds_toArray, List.set_cons_zero, List.set_cons_succ]
  refine heldTake (v := ?_) 16 4 rfl rfl (by kernel_rfl) (by kernel_rfl) (by kernel_rfl) (fun _ _ _ h => h) (by rfl) (fun w hSw => ?_) (by assumption) ?_
  rotate_left
  · (try dsimp only at hSw); first | (go_simp; done) | (go_simp; with_reducible rfl)
  simp only [List.setIfInBounds_toArray, List.set_cons_zero, List.set_cons_succ]
  refine wpAnyH_done (by kernel_rfl) ?_ _
  have HB9 : Hid (Below w.heap.size w _) := hHeld.2.2.2.2.2.2.2.2.2
  clear hHeld HS
  go_wp2
  go_ret
  exact ⟨by rw [HE.out]; rfl, HB9.out⟩

set_option maxRecDepth 100000 in
set_option maxHeartbeats 4000000 in
theorem rHolds_4 (x : PPr) (a : Option Addr) (n cap : Nat) (R : List PV) (w : World) (hn : R.length = n) (h4 : n ≤ 65536) (hr : RdV w a R) (hk : x.kind = 4) (hp : placeB x.col n = true) (hp2 : placeB x.other n = true) :
    Calls Try.prog 14 #[.agg (cellsP x), .slice a n cap] w fun e w' => e = .returned (.bool (holdsP x R)) ∧ Below w.heap.size w w' := by
  have HN : Hid (R.length = n) := hn
  have HR : Hid (RdV w a R) := hr
  clear hn hr
  have hh : hasB x n = true := by simp [hasB, hp, hp2]
  have ho : askO x.kind = true := by rw [hk]; rfl
  have HE := holdsP_4 (R := R) (by rw [HN.out]; exact hh) hk
  obtain ⟨i, hi, hin⟩ := has_col hh
  have hil : i < R.length := by rw [HN.out]; exact hin
  obtain ⟨b, off, rfl, hc⟩ := HR.out (by omega)
  obtain ⟨y0, y1, y2⟩ := hc i hil
  rw [hi, atV_nat R i hil] at HE
  have i0 : (0 : Int) ≤ (i : Int) := by omega
  have i1 : (i : Int) < (n : Int) := by omega
  obtain ⟨j, hj, hjn⟩ := has_oth hh ho
  have hjl : j < R.length := by rw [HN.out]; exact hjn
  obtain ⟨z0, z1, z2⟩ := hc j hjl
  rw [hj, atV_nat R j hjl] at HE
  have j0 : (0 : Int) ≤ (j : Int) := by omega
  have j1 : (j : Int) < (n : Int) := by omega
  generalize R[i] = u at *
  generalize R[j] = v at *
  obtain ⟨u0, u1, u2⟩ := u
  obtain ⟨v0, v1, v2⟩ := v
  simp only at y0 y1 y2 z0 z1 z2
  clear hc hil hjl HR hh ho
  obtain ⟨k, c, o, vk, vi, vs⟩ := x
  try simp only at hk hp hp2 hi hj
  simp only [cellsP]
  subst hi
  subst hj
  subst hk
  have CC := rCompare_any u0 u1 u2 v0 v1 v2
  obtain ⟨q, hq⟩ : ∃ q, cmpV ⟨u0, u1, u2⟩ ⟨v0, v1, v2⟩ = q := ⟨_, rfl⟩
  rw [hq] at CC HE
  clear hq
  have HE : Hid (holdsP _ R = _) := HE
  have CP := p14Place _ n hp2
  have ew := wrap_less n h4
  have ew2 : wrap64 ((n : Int) - 1) = (n : Int) - 1 := IntWalk.wrap64_in _ ⟨by omega, by omega⟩
  go_enter Try.func14, Try.ntmps14
  go_wp2_with fail
  refine (p14Place _ n hp _).mono ?_
  rintro e w4 ⟨rfl, hb⟩
  obtain ⟨c0, c1, c2, c3, c4, c5⟩ := box6 hb
  have HB : Hid (Below w.heap.size w w4) := chain (alloc_below _ _) hb
  clear hb
  replace y0 := cell_later HB.out y0
  replace y1 := cell_later HB.out y1
  replace y2 := cell_later HB.out y2
  have HB5 : Hid (Below w.heap.size w (w4.alloc (.cells #[.int .i64 u0, .int .i64 u1, .string u2] 23))) := chain HB.out (alloc_below _ _)
  obtain ⟨d0, d1, d2⟩ := box3 (Below.refl (w4.alloc (.cells #[.int .i64 u0, .int .i64 u1, .string u2] 23)).heap.size (w4.alloc (.cells #[.int .i64 u0, .int .i64 u1, .string u2] 23)))
  replace z0 := cell_later HB5.out z0
  replace z1 := cell_later HB5.out z1
  replace z2 := cell_later HB5.out z2
  have HA : Hid (Below w4.heap.size w4 (w4.alloc (.cells #[.int .i64 u0, .int .i64 u1, .string u2] 23))) := alloc_below _ _
  have c0' := cell_later HA.out c0
  have c1' := cell_later HA.out c1
  have c2' := cell_later HA.out c2
  have c3' := cell_later HA.out c3
  have c4' := cell_later HA.out c4
  have c5' := cell_later HA.out c5
  go_upto_region 12 with fail
  have HS : (w4.alloc (.cells #[.int .i64 u0, .int .i64 u1, .string u2] 23)).drew.cell? ⟨w.heap.size, 0, none⟩ = some (.int .i64 4) ∧ (w4.alloc (.cells #[.int .i64 u0, .int .i64 u1, .string u2] 23)).drew.cell? ⟨w.heap.size, 1, none⟩ = some (.int .i64 i) ∧ (w4.alloc (.cells #[.int .i64 u0, .int .i64 u1, .string u2] 23)).drew.cell? ⟨w.heap.size, 2, none⟩ = some (.int .i64 j) ∧ (w4.alloc (.cells #[.int .i64 u0, .int .i64 u1, .string u2] 23)).drew.cell? ⟨w.heap.size, 3, none⟩ = some (.int .i64 vk) ∧ (w4.alloc (.cells #[.int .i64 u0, .int .i64 u1, .string u2] 23)).drew.cell? ⟨w.heap.size, 4, none⟩ = some (.int .i64 vi) ∧ (w4.alloc (.cells #[.int .i64 u0, .int .i64 u1, .string u2] 23)).drew.cell? ⟨w.heap.size, 5, none⟩ = some (.string vs) ∧ (w4.alloc (.cells #[.int .i64 u0, .int .i64 u1, .string u2] 23)).drew.cell? ⟨w4.heap.size, 0, none⟩ = some (.int .i64 u0) ∧ (w4.alloc (.cells #[.int .i64 u0, .int .i64 u1, .string u2] 23)).drew.cell? ⟨w4.heap.size, 1, none⟩ = some (.int .i64 u1) ∧ (w4.alloc (.cells #[.int .i64 u0, .int .i64 u1, .string u2] 23)).drew.cell? ⟨w4.heap.size, 2, none⟩ = some (.string u2) ∧ (w4.alloc (.cells #[.int .i64 u0, .int .i64 u1, .string u2] 23)).drew.cell? ⟨b, off + j * 3, none⟩ = some (.int .i64 v0) ∧ (w4.alloc (.cells #[.int .i64 u0, .int .i64 u1, .string u2] 23)).drew.cell? ⟨b, off + j * 3 + 1, none⟩ = some (.int .i64 v1) ∧ (w4.alloc (.cells #[.int .i64 u0, .int .i64 u1, .string u2] 23)).drew.cell? ⟨b, off + j * 3 + 2, none⟩ = some (.string v2) ∧ Hid (Below w.heap.size w (w4.alloc (.cells #[.int .i64 u0, .int .i64 u1, .string u2] 23)).drew) := keepP12 (Below.refl _ _).drew ⟨c0', c1', c2', c3', c4', c5', d0, d1, d2, z0, z1, z2, HB5⟩
  clear c0 c1 c2 c3 c4 c5 c0' c1' c2' c3' c4' c5' d0 d1 d2 y0 y1 y2 z0 z1 z2 HB HA HB5
  refine wp_region_held_drew (S := (fun w' => w'.cell? ⟨w.heap.size, 0, none⟩ = some (.int .i64 4) ∧ w'.cell? ⟨w.heap.size, 1, none⟩ = some (.int .i64 i) ∧ w'.cell? ⟨w.heap.size, 2, none⟩ = some (.int .i64 j) ∧ w'.cell? ⟨w.heap.size, 3, none⟩ = some (.int .i64 vk) ∧ w'.cell? ⟨w.heap.size, 4, none⟩ = some (.int .i64 vi) ∧ w'.cell? ⟨w.heap.size, 5, none⟩ = some (.string vs) ∧ w'.cell? ⟨w4.heap.size, 0, none⟩ = some (.int .i64 u0) ∧ w'.cell? ⟨w4.heap.size, 1, none⟩ = some (.int .i64 u1) ∧ w'.cell? ⟨w4.heap.size, 2, none⟩ = some (.string u2) ∧ w'.cell? ⟨b, off + j * 3, none⟩ = some (.int .i64 v0) ∧ w'.cell? ⟨b, off + j * 3 + 1, none⟩ = some (.int .i64 v1) ∧ w'.cell? ⟨b, off + j * 3 + 2, none⟩ = some (.string v2) ∧ Hid (Below w.heap.size w w'))) (by kernel_rfl) HS (fun hHeld => ?_)
  refine heldTake (v := ?_) 0 54 rfl rfl (by kernel_rfl) (by kernel_rfl) (by kernel_rfl) (fun _ _ _ h => h) (by rfl) (fun w hSw => ?_) (by assumption) ?_
  rotate_left
  · (try dsimp only at hSw); first | (go_simp; done) | (go_simp; with_reducible rfl)
  simp only [List.setIfInBounds_toArray, List.set_cons_zero, List.set_cons_succ]
  refine heldTake (v := ?_) 1 55 rfl rfl (by kernel_rfl) (by kernel_rfl) (by kernel_rfl) (fun _ _ _ h => h) (by rfl) (fun w hSw => ?_) (by assumption) ?_
  rotate_left
  · (try dsimp only at hSw); first | (go_simp; done) | (go_simp; with_reducible rfl)
  simp only [List.setIfInBounds_toArray, List.set_cons_zero, List.set_cons_succ]
  refine heldTake (v := ?_) 2 56 rfl rfl (by kernel_rfl) (by kernel_rfl) (by kernel_rfl) (fun _ _ _ h => h) (by rfl) (fun w hSw => ?_) (by assumption) ?_
  rotate_left
  · (try dsimp only at hSw); first | (go_simp; done) | (go_simp; with_reducible rfl)
  simp only [List.setIfInBounds_toArray, List.set_cons_zero, List.set_cons_succ]
  refine heldTake (v := ?_) 3 57 rfl rfl (by kernel_rfl) (by kernel_rfl) (by kernel_rfl) (fun _ _ _ h => h) (by rfl) (fun w hSw => ?_) (by assumption) ?_
  rotate_left
  · (try dsimp only at hSw); first | (go_simp; done) | (go_simp; with_reducible rfl)
  simp only [List.setIfInBounds_toArray, List.set_cons_zero, List.set_cons_succ]
  refine heldTake (v := ?_) 4 58 rfl rfl (by kernel_rfl) (by kernel_rfl) (by kernel_rfl) (fun _ _ _ h => h) (by rfl) (fun w hSw => ?_) (by assumption) ?_
  rotate_left
  · (try dsimp only at hSw); first | (go_simp; done) | (go_simp; with_reducible rfl)
  simp only [List.setIfInBounds_toArray, List.set_cons_zero, List.set_cons_succ]
  refine heldOne 5 rfl (by kernel_rfl) (by rfl) (fun K2 hK => ?_)
  go_simp
  refine (CP _).mono ?_
  rintro e wz ⟨rfl, hb⟩
  simp only []
  refine hK.out _ _ ?_ (fun hHeld => ?_)
  · first | exact keepP12 (by assumption) (by assumption) | exact keepP12 (Below.refl _ _).drew (by assumption)
  clear hK K2
  try simp only [List.setIfInBounds_toArray, List.set_cons_zero, List.set_cons_succ]
  refine heldTake (v := ?_) 6 60 rfl rfl (by kernel_rfl) (by kernel_rfl) (by kernel_rfl) (fun _ _ _ h => h) (by rfl) (fun w hSw => ?_) (by assumption) ?_
  rotate_left
  · (try dsimp only at hSw); first | (go_simp; done) | (go_simp; with_reducible rfl)
  simp only [List.setIfInBounds_toArray, List.set_cons_zero, List.set_cons_succ]
  refine heldTake (v := ?_) 7 61 rfl rfl (by kernel_rfl) (by kernel_rfl) (by kernel_rfl) (fun _ _ _ h => h) (by rfl) (fun w hSw => ?_) (by assumption) ?_
  rotate_left
  · (try dsimp only at hSw); first | (go_simp; done) | (go_simp; with_reducible rfl)
  simp only [List.setIfInBounds_toArray, List.set_cons_zero, List.set_cons_succ]
  refine heldTake (v := ?_) 8 62 rfl rfl (by kernel_rfl) (by kernel_rfl) (by kernel_rfl) (fun _ _ _ h => h) (by rfl) (fun w hSw => ?_) (by assumption) ?_
  rotate_left
  · (try dsimp only at hSw); first | (go_simp; done) | (go_simp; with_reducible rfl)
  simp only [List.setIfInBounds_toArray, List.set_cons_zero, List.set_cons_succ]
  refine heldTake (v := ?_) 9 63 rfl rfl (by kernel_rfl) (by kernel_rfl) (by kernel_rfl) (fun _ _ _ h => h) (by rfl) (fun w hSw => ?_) (by assumption) ?_
  rotate_left
  · (try dsimp only at hSw); first | (go_simp; done) | (go_simp; with_reducible rfl)
  simp only [List.setIfInBounds_toArray, List.set_cons_zero, List.set_cons_succ]
  refine heldTake (v := ?_) 10 64 rfl rfl (by kernel_rfl) (by kernel_rfl) (by kernel_rfl) (fun _ _ _ h => h) (by rfl) (fun w hSw => ?_) (by assumption) ?_
  rotate_left
  · (try dsimp only at hSw); first | (go_simp; done) | (go_simp; with_reducible rfl)
  simp only [List.setIfInBounds_toArray, List.set_cons_zero, List.set_cons_succ]
  refine heldTake (v := ?_) 11 65 rfl rfl (by kernel_rfl) (by kernel_rfl) (by kernel_rfl) (fun _ _ _ h => h) (by rfl) (fun w hSw => ?_) (by assumption) ?_
  rotate_left
  · (try dsimp only at hSw); first | (go_simp; done) | (go_simp; with_reducible rfl)
  simp only [List.setIfInBounds_toArray, List.set_cons_zero, List.set_cons_succ]
  refine heldTake (v := ?_) 12 66 rfl rfl (by kernel_rfl) (by kernel_rfl) (by kernel_rfl) (fun _ _ _ h => h) (by rfl) (fun w hSw => ?_) (by assumption) ?_
  rotate_left
  · (try dsimp only at hSw); first | (go_simp; done) | (go_simp; with_reducible rfl)
  simp only [List.setIfInBounds_toArray, List.set_cons_zero, List.set_cons_succ]
  refine heldOne 13 rfl (by kernel_rfl) (by rfl) (fun K2 hK => ?_)
  go_simp
  refine (CC _).mono ?_
  rintro e wz ⟨rfl, hb⟩
  simp only []
  refine hK.out _ _ ?_ (fun hHeld => ?_)
  · first | exact keepP12 (by assumption) (by assumption) | exact keepP12 (Below.refl _ _).drew (by assumption)
  clear hK K2
  try simp only [List.setIfInBounds_toArray, List.set_cons_zero, List.set_cons_succ]
  refine heldTake (v := ?_) 14 68 rfl rfl (by kernel_rfl) (by kernel_rfl) (by kernel_rfl) (fun _ _ _ h => h) (by rfl) (fun w hSw => ?_) (by assumption) ?_
  rotate_left
  · (try dsimp only at hSw); first | (go_simp; done) | (go_simp; with_reducible rfl)
  simp only [List.setIfInBounds_toArray, List.set_cons_zero, List.set_cons_succ]
  refine heldTake (v := ?_) 15 69 rfl rfl (by kernel_rfl) (by kernel_rfl) (by kernel_rfl) (fun _ _ _ h => h) (by rfl) (fun w hSw => ?_) (by assumption) ?_
  rotate_left
  · (try dsimp only at hSw); first | (go_simp; done) | (go_simp; with_reducible rfl)
  simp only [List.setIfInBounds_toArray, List.set_cons_zero, List.set_cons_succ]
  refine heldTake (v := ?_) 16 4 rfl rfl (by kernel_rfl) (by kernel_rfl) (by kernel_rfl) (fun _ _ _ h => h) (by rfl) (fun w hSw => ?_) (by assumption) ?_
  rotate_left
  · (try dsimp only at hSw); first | (go_simp; done) | (go_simp; with_reducible rfl)
  simp only [List.setIfInBounds_toArray, List.set_cons_zero, List.set_cons_succ]
  refine wpAnyH_done (by kernel_rfl) ?_ _
  have HB9 : Hid (Below w.heap.size w _) := hHeld.2.2.2.2.2.2.2.2.2.2.2.2
  clear hHeld HS
  go_wp2
  go_ret
  exact ⟨by rw [HE.out]; rfl, HB9.out⟩

set_option maxRecDepth 100000 in
set_option maxHeartbeats 4000000 in
theorem rHolds_5 (x : PPr) (a : Option Addr) (n cap : Nat) (R : List PV) (w : World) (hn : R.length = n) (h4 : n ≤ 65536) (hr : RdV w a R) (hk : x.kind = 5) (hp : placeB x.col n = true) :
    Calls Try.prog 14 #[.agg (cellsP x), .slice a n cap] w fun e w' => e = .returned (.bool (holdsP x R)) ∧ Below w.heap.size w w' := by
  have HN : Hid (R.length = n) := hn
  have HR : Hid (RdV w a R) := hr
  clear hn hr
  have hh : hasB x n = true := by simp [hasB, hp, hk, askO]
  have HE := holdsP_5 (R := R) (by rw [HN.out]; exact hh) hk
  obtain ⟨i, hi, hin⟩ := has_col hh
  have hil : i < R.length := by rw [HN.out]; exact hin
  obtain ⟨b, off, rfl, hc⟩ := HR.out (by omega)
  obtain ⟨y0, y1, y2⟩ := hc i hil
  rw [hi, atV_nat R i hil] at HE
  have i0 : (0 : Int) ≤ (i : Int) := by omega
  have i1 : (i : Int) < (n : Int) := by omega
  generalize R[i] = u at *
  obtain ⟨u0, u1, u2⟩ := u
  simp only at y0 y1 y2
  clear hc hil HR hh
  obtain ⟨k, c, o, vk, vi, vs⟩ := x
  try simp only at hk hp hi
  simp only [cellsP]
  subst hi
  subst hk
  have HE : Hid (holdsP _ R = _) := HE
  have ew := wrap_less n h4
  have ew2 : wrap64 ((n : Int) - 1) = (n : Int) - 1 := IntWalk.wrap64_in _ ⟨by omega, by omega⟩
  go_enter Try.func14, Try.ntmps14
  go_wp2_with fail
  refine (p14Place _ n hp _).mono ?_
  rintro e w4 ⟨rfl, hb⟩
  obtain ⟨c0, c1, c2, c3, c4, c5⟩ := box6 hb
  have HB : Hid (Below w.heap.size w w4) := chain (alloc_below _ _) hb
  clear hb
  replace y0 := cell_later HB.out y0
  replace y1 := cell_later HB.out y1
  replace y2 := cell_later HB.out y2
  obtain ⟨d0, d1, d2⟩ := box3 (Below.refl (w4.alloc (.cells #[.int .i64 u0, .int .i64 u1, .string u2] 23)).heap.size (w4.alloc (.cells #[.int .i64 u0, .int .i64 u1, .string u2] 23)))
  have HA : Hid (Below w4.heap.size w4 (w4.alloc (.cells #[.int .i64 u0, .int .i64 u1, .string u2] 23))) := alloc_below _ _
  have c0' := cell_later HA.out c0
  have c1' := cell_later HA.out c1
  have c2' := cell_later HA.out c2
  have c3' := cell_later HA.out c3
  have c4' := cell_later HA.out c4
  have c5' := cell_later HA.out c5
  clear HA
  go_wp2
  go_ret
  exact ⟨by rw [HE.out]; rfl, chain HB.out (alloc_below _ _)⟩

set_option maxRecDepth 100000 in
set_option maxHeartbeats 4000000 in
theorem rHolds_6 (x : PPr) (a : Option Addr) (n cap : Nat) (R : List PV) (w : World) (hn : R.length = n) (h4 : n ≤ 65536) (hr : RdV w a R) (hk : x.kind = 6) (hp : placeB x.col n = true) :
    Calls Try.prog 14 #[.agg (cellsP x), .slice a n cap] w fun e w' => e = .returned (.bool (holdsP x R)) ∧ Below w.heap.size w w' := by
  have HN : Hid (R.length = n) := hn
  have HR : Hid (RdV w a R) := hr
  clear hn hr
  have hh : hasB x n = true := by simp [hasB, hp, hk, askO]
  have HE := holdsP_6 (R := R) (by rw [HN.out]; exact hh) hk
  obtain ⟨i, hi, hin⟩ := has_col hh
  have hil : i < R.length := by rw [HN.out]; exact hin
  obtain ⟨b, off, rfl, hc⟩ := HR.out (by omega)
  obtain ⟨y0, y1, y2⟩ := hc i hil
  rw [hi, atV_nat R i hil] at HE
  have i0 : (0 : Int) ≤ (i : Int) := by omega
  have i1 : (i : Int) < (n : Int) := by omega
  generalize R[i] = u at *
  obtain ⟨u0, u1, u2⟩ := u
  simp only at y0 y1 y2
  clear hc hil HR hh
  obtain ⟨k, c, o, vk, vi, vs⟩ := x
  try simp only at hk hp hi
  simp only [cellsP]
  subst hi
  subst hk
  have HE : Hid (holdsP _ R = _) := HE
  have ew := wrap_less n h4
  have ew2 : wrap64 ((n : Int) - 1) = (n : Int) - 1 := IntWalk.wrap64_in _ ⟨by omega, by omega⟩
  go_enter Try.func14, Try.ntmps14
  go_wp2_with fail
  refine (p14Place _ n hp _).mono ?_
  rintro e w4 ⟨rfl, hb⟩
  obtain ⟨c0, c1, c2, c3, c4, c5⟩ := box6 hb
  have HB : Hid (Below w.heap.size w w4) := chain (alloc_below _ _) hb
  clear hb
  replace y0 := cell_later HB.out y0
  replace y1 := cell_later HB.out y1
  replace y2 := cell_later HB.out y2
  obtain ⟨d0, d1, d2⟩ := box3 (Below.refl (w4.alloc (.cells #[.int .i64 u0, .int .i64 u1, .string u2] 23)).heap.size (w4.alloc (.cells #[.int .i64 u0, .int .i64 u1, .string u2] 23)))
  have HA : Hid (Below w4.heap.size w4 (w4.alloc (.cells #[.int .i64 u0, .int .i64 u1, .string u2] 23))) := alloc_below _ _
  have c0' := cell_later HA.out c0
  have c1' := cell_later HA.out c1
  have c2' := cell_later HA.out c2
  have c3' := cell_later HA.out c3
  have c4' := cell_later HA.out c4
  have c5' := cell_later HA.out c5
  clear HA
  go_wp2
  go_ret
  exact ⟨by rw [HE.out]; rfl, chain HB.out (alloc_below _ _)⟩

set_option maxRecDepth 100000 in
set_option maxHeartbeats 4000000 in
theorem rHolds_else (x : PPr) (a : Option Addr) (n cap : Nat) (R : List PV) (w : World) (hn : R.length = n) (h4 : n ≤ 65536) (hr : RdV w a R) (hk : ¬ (1 ≤ x.kind ∧ x.kind ≤ 6)) (hp : placeB x.col n = true) :
    Calls Try.prog 14 #[.agg (cellsP x), .slice a n cap] w fun e w' => e = .returned (.bool (holdsP x R)) ∧ Below w.heap.size w w' := by
  have HN : Hid (R.length = n) := hn
  have HR : Hid (RdV w a R) := hr
  clear hn hr
  have HE : Hid (holdsP x R = false) := holdsP_else hk
  obtain ⟨i, hi, hin⟩ : ∃ i : Nat, x.col = i ∧ i < n := by
    have h1 := placeB_iff.1 hp
    exact ⟨x.col.toNat, by omega, by omega⟩
  have hil : i < R.length := by rw [HN.out]; exact hin
  obtain ⟨b, off, rfl, hc⟩ := HR.out (by omega)
  obtain ⟨y0, y1, y2⟩ := hc i hil
  have i0 : (0 : Int) ≤ (i : Int) := by omega
  have i1 : (i : Int) < (n : Int) := by omega
  generalize R[i] = u at *
  obtain ⟨u0, u1, u2⟩ := u
  simp only at y0 y1 y2
  clear hc hil HR
  obtain ⟨k, c, o, vk, vi, vs⟩ := x
  try simp only at hk hp hi
  simp only [cellsP]
  have k1 : ¬ k = 1 := by omega
  have k2 : ¬ k = 2 := by omega
  have k3 : ¬ k = 3 := by omega
  have k4 : ¬ k = 4 := by omega
  have k5 : ¬ k = 5 := by omega
  have k6 : ¬ k = 6 := by omega
  clear hk
  subst hi
  have ew := wrap_less n h4
  have ew2 : wrap64 ((n : Int) - 1) = (n : Int) - 1 := IntWalk.wrap64_in _ ⟨by omega, by omega⟩
  go_enter Try.func14, Try.ntmps14
  go_wp2_with fail
  refine (p14Place _ n hp _).mono ?_
  rintro e w4 ⟨rfl, hb⟩
  obtain ⟨c0, c1, c2, c3, c4, c5⟩ := box6 hb
  have HB : Hid (Below w.heap.size w w4) := chain (alloc_below _ _) hb
  clear hb
  replace y0 := cell_later HB.out y0
  replace y1 := cell_later HB.out y1
  replace y2 := cell_later HB.out y2
  obtain ⟨d0, d1, d2⟩ := box3 (Below.refl (w4.alloc (.cells #[.int .i64 u0, .int .i64 u1, .string u2] 23)).heap.size (w4.alloc (.cells #[.int .i64 u0, .int .i64 u1, .string u2] 23)))
  have HA : Hid (Below w4.heap.size w4 (w4.alloc (.cells #[.int .i64 u0, .int .i64 u1, .string u2] 23))) := alloc_below _ _
  have c0' := cell_later HA.out c0
  have c1' := cell_later HA.out c1
  have c2' := cell_later HA.out c2
  have c3' := cell_later HA.out c3
  have c4' := cell_later HA.out c4
  have c5' := cell_later HA.out c5
  clear HA
  go_wp2
  go_ret
  exact ⟨by rw [HE.out]; rfl, chain HB.out (alloc_below _ _)⟩

theorem rHolds_any (x : PPr) (a : Option Addr) (n cap : Nat) (R : List PV) (w : World) (hn : R.length = n) (h4 : n ≤ 65536) (hr : RdV w a R) :
    Calls Try.prog 14 #[.agg (cellsP x), .slice a n cap] w fun e w' => e = .returned (.bool (holdsP x R)) ∧ Below w.heap.size w w' := by
  cases hp : placeB x.col n with
  | false => exact rHolds_col x a n cap R w hn h4 hr hp
  | true =>
    by_cases hk : 1 ≤ x.kind ∧ x.kind ≤ 6
    · by_cases h1 : x.kind = 1
      · exact rHolds_1 x a n cap R w hn h4 hr h1 hp
      by_cases h2 : x.kind = 2
      · exact rHolds_2 x a n cap R w hn h4 hr h2 hp
      by_cases h5 : x.kind = 5
      · exact rHolds_5 x a n cap R w hn h4 hr h5 hp
      by_cases h6 : x.kind = 6
      · exact rHolds_6 x a n cap R w hn h4 hr h6 hp
      cases hp2 : placeB x.other n with
      | false =>
        by_cases h3 : x.kind = 3
        · exact rHolds_3no x a n cap R w hn h4 hr h3 hp hp2
        · exact rHolds_4no x a n cap R w hn h4 hr (by omega) hp hp2
      | true =>
        by_cases h3 : x.kind = 3
        · exact rHolds_3 x a n cap R w hn h4 hr h3 hp hp2
        · exact rHolds_4 x a n cap R w hn h4 hr (by omega) hp hp2
    · exact rHolds_else x a n cap R w hn h4 hr hk hp

end Go.Proofs.Ytmolklaammfbmaa
