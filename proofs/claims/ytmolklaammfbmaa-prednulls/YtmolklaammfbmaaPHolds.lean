/-
  What pred's Holds answers, of the landed code.
-/
import Derived.Test.YtmolklaammfbmaaRows
import Derived.Test.YtmolklaammfbmaaPKeep
import Derived.Test.YtmolklaammfbmaaPCheck
import Derived.Test.YtmolklaammfbmaaVCodeB
import Derived.Test.YtmolklaammfbmaaHeld
import Derived.Deep.CutRange
namespace Go.Proofs.Ytmolklaammfbmaa
open Go.RowKit Go.Lib
set_option linter.unusedVariables false

theorem holdsP_no {x : PPr} {R : List PV} (h : hasB x R.length = false) : holdsP x R = false := by simp [holdsP, h]

theorem holdsP_1 {x : PPr} {R : List PV} (h : hasB x R.length = true) (hk : x.kind = 1) : holdsP x R = (cmpV (atV R x.col) x.val == 0) := by simp [holdsP, h, hk]

theorem holdsP_2 {x : PPr} {R : List PV} (h : hasB x R.length = true) (hk : x.kind = 2) : holdsP x R = decide (cmpV (atV R x.col) x.val < 0) := by simp [holdsP, h, hk]

theorem holdsP_3 {x : PPr} {R : List PV} (h : hasB x R.length = true) (hk : x.kind = 3) : holdsP x R = (cmpV (atV R x.col) (atV R x.other) == 0) := by simp [holdsP, h, hk]

theorem holdsP_4 {x : PPr} {R : List PV} (h : hasB x R.length = true) (hk : x.kind = 4) : holdsP x R = decide (cmpV (atV R x.col) (atV R x.other) < 0) := by simp [holdsP, h, hk]

theorem holdsP_5 {x : PPr} {R : List PV} (h : hasB x R.length = true) (hk : x.kind = 5) : holdsP x R = ((atV R x.col).k == 1) := by simp [holdsP, h, hk]

theorem holdsP_6 {x : PPr} {R : List PV} (h : hasB x R.length = true) (hk : x.kind = 6) : holdsP x R = !((atV R x.col).k == 1) := by simp [holdsP, h, hk]

theorem holdsP_else {x : PPr} {R : List PV} (hk : ¬ (1 ≤ x.kind ∧ x.kind ≤ 6)) : holdsP x R = false := by
  unfold holdsP
  split
  · rfl
  · rw [if_neg (by omega), if_neg (by omega), if_neg (by omega), if_neg (by omega), if_neg (by omega), if_neg (by omega)]

set_option maxRecDepth 100000 in
set_option maxHeartbeats 4000000 in
theorem pHolds_no (x : PPr) (a : Option Addr) (n cap : Nat) (R : List PV) (w : World) (hn : R.length = n) (h4 : n ≤ 65536) (hr : RdV w a R) (hh : hasB x n = false) :
    Calls Try.prog 13 #[.agg (cellsP x), .slice a n cap] w fun e w' => e = .returned (.bool (holdsP x R)) ∧ Below w.heap.size w w' := by
  have HN : Hid (R.length = n) := hn
  have HR : Hid (RdV w a R) := hr
  clear hn hr
  have HE : Hid (holdsP x R = false) := holdsP_no (by rw [HN.out]; exact hh)
  obtain ⟨k, c, o, vk, vi, vs⟩ := x
  try simp only at hh
  simp only [cellsP]
  have CH := pHas_any ⟨k, c, o, vk, vi, vs⟩ n
  rw [hh] at CH
  simp only [cellsP] at CH
  go_enter Try.func13, Try.ntmps13
  go_wp2_with fail
  refine (CH _).mono ?_
  rintro e w4 ⟨rfl, hb⟩
  obtain ⟨c0, c1, c2, c3, c4, c5⟩ := box6 hb
  have HB : Hid (Below w.heap.size w w4) := chain (alloc_below _ _) hb
  clear hb CH
  go_wp2
  go_ret
  exact ⟨by rw [HE.out]; rfl, HB.out⟩

set_option maxRecDepth 100000 in
set_option maxHeartbeats 4000000 in
theorem pHolds_1 (x : PPr) (a : Option Addr) (n cap : Nat) (R : List PV) (w : World) (hn : R.length = n) (h4 : n ≤ 65536) (hr : RdV w a R) (hh : hasB x n = true) (hk : x.kind = 1) :
    Calls Try.prog 13 #[.agg (cellsP x), .slice a n cap] w fun e w' => e = .returned (.bool (holdsP x R)) ∧ Below w.heap.size w w' := by
  have HN : Hid (R.length = n) := hn
  have HR : Hid (RdV w a R) := hr
  clear hn hr
  have HE := holdsP_1 (R := R) (by rw [HN.out]; exact hh) hk
  obtain ⟨i, hi, hin⟩ := has_col hh
  have hil : i < R.length := by rw [HN.out]; exact hin
  obtain ⟨b, off, rfl, hc⟩ := HR.out (by omega)
  obtain ⟨y0, y1, y2⟩ := hc i hil
  rw [hi, atV_nat R i hil] at HE
  have i0 : (0 : Int) ≤ (i : Int) := by omega
  have i1 : (i : Int) < (n : Int) := by omega
  generalize R[i] = u at *
  obtain ⟨u0, u1, u2⟩ := u
  simp only at y0 y1 y2
  clear hc hil HR
  obtain ⟨k, c, o, vk, vi, vs⟩ := x
  try simp only at hh hi hk
  simp only [cellsP]
  subst hi
  subst hk
  have CC := valueCompare u0 u1 u2 vk vi vs
  obtain ⟨q, hq⟩ : ∃ q, cmpV ⟨u0, u1, u2⟩ ⟨vk, vi, vs⟩ = q := ⟨_, rfl⟩
  rw [hq] at CC HE
  clear hq
  have HE : Hid (holdsP _ R = _) := HE
  have CH := pHas_any ⟨1, (i : Int), o, vk, vi, vs⟩ n
  rw [hh] at CH
  simp only [cellsP] at CH
  go_enter Try.func13, Try.ntmps13
  go_wp2_with fail
  refine (CH _).mono ?_
  rintro e w4 ⟨rfl, hb⟩
  obtain ⟨c0, c1, c2, c3, c4, c5⟩ := box6 hb
  have HB : Hid (Below w.heap.size w w4) := chain (alloc_below _ _) hb
  clear hb CH
  go_upto_region 5 with fail
  have HS : w4.drew.cell? ⟨w.heap.size, 0, none⟩ = some (.int .i64 1) ∧ w4.drew.cell? ⟨w.heap.size, 1, none⟩ = some (.int .i64 i) ∧ w4.drew.cell? ⟨w.heap.size, 2, none⟩ = some (.int .i64 o) ∧ w4.drew.cell? ⟨w.heap.size, 3, none⟩ = some (.int .i64 vk) ∧ w4.drew.cell? ⟨w.heap.size, 4, none⟩ = some (.int .i64 vi) ∧ w4.drew.cell? ⟨w.heap.size, 5, none⟩ = some (.string vs) ∧ w4.drew.cell? ⟨b, off + i * 3, none⟩ = some (.int .i64 u0) ∧ w4.drew.cell? ⟨b, off + i * 3 + 1, none⟩ = some (.int .i64 u1) ∧ w4.drew.cell? ⟨b, off + i * 3 + 2, none⟩ = some (.string u2) ∧ Hid (Below w.heap.size w w4.drew) := keepP9 (Below.refl _ _).drew ⟨c0, c1, c2, c3, c4, c5, cell_later HB.out y0, cell_later HB.out y1, cell_later HB.out y2, HB⟩
  clear c0 c1 c2 c3 c4 c5 y0 y1 y2 HB
  refine wp_region_held_drew (S := (fun w' => w'.cell? ⟨w.heap.size, 0, none⟩ = some (.int .i64 1) ∧ w'.cell? ⟨w.heap.size, 1, none⟩ = some (.int .i64 i) ∧ w'.cell? ⟨w.heap.size, 2, none⟩ = some (.int .i64 o) ∧ w'.cell? ⟨w.heap.size, 3, none⟩ = some (.int .i64 vk) ∧ w'.cell? ⟨w.heap.size, 4, none⟩ = some (.int .i64 vi) ∧ w'.cell? ⟨w.heap.size, 5, none⟩ = some (.string vs) ∧ w'.cell? ⟨b, off + i * 3, none⟩ = some (.int .i64 u0) ∧ w'.cell? ⟨b, off + i * 3 + 1, none⟩ = some (.int .i64 u1) ∧ w'.cell? ⟨b, off + i * 3 + 2, none⟩ = some (.string u2) ∧ Hid (Below w.heap.size w w'))) (by kernel_rfl) HS (fun hHeld => ?_)
  refine heldTake (v := ?_) 0 14 rfl rfl (by kernel_rfl) (by kernel_rfl) (by kernel_rfl) (fun _ _ _ h => h) (by rfl) (fun w hSw => ?_) (by assumption) ?_
  rotate_left
  · (try dsimp only at hSw); first | (go_simp; done) | (go_simp; with_reducible rfl)
  simp only [List.setIfInBounds_toArray, List.set_cons_zero, List.set_cons_succ]
  refine heldTake (v := ?_) 1 15 rfl rfl (by kernel_rfl) (by kernel_rfl) (by kernel_rfl) (fun _ _ _ h => h) (by rfl) (fun w hSw => ?_) (by assumption) ?_
  rotate_left
  · (try dsimp only at hSw); first | (go_simp; done) | (go_simp; with_reducible rfl)
  simp only [List.setIfInBounds_toArray, List.set_cons_zero, List.set_cons_succ]
  refine heldTake (v := ?_) 2 16 rfl rfl (by kernel_rfl) (by kernel_rfl) (by kernel_rfl) (fun _ _ _ h => h) (by rfl) (fun w hSw => ?_) (by assumption) ?_
  rotate_left
  · (try dsimp only at hSw); first | (go_simp; done) | (go_simp; with_reducible rfl)
  simp only [List.setIfInBounds_toArray, List.set_cons_zero, List.set_cons_succ]
  refine heldTake (v := ?_) 3 17 rfl rfl (by kernel_rfl) (by kernel_rfl) (by kernel_rfl) (fun _ _ _ h => h) (by rfl) (fun w hSw => ?_) (by assumption) ?_
  rotate_left
  · (try dsimp only at hSw); first | (go_simp; done) | (go_simp; with_reducible rfl)
  simp only [List.setIfInBounds_toArray, List.set_cons_zero, List.set_cons_succ]
  refine heldTake (v := ?_) 4 18 rfl rfl (by kernel_rfl) (by kernel_rfl) (by kernel_rfl) (fun _ _ _ h => h) (by rfl) (fun w hSw => ?_) (by assumption) ?_
  rotate_left
  · (try dsimp only at hSw); first | (go_simp; done) | (go_simp; with_reducible rfl)
  simp only [List.setIfInBounds_toArray, List.set_cons_zero, List.set_cons_succ]
  refine heldTake (v := ?_) 5 19 rfl rfl (by kernel_rfl) (by kernel_rfl) (by kernel_rfl) (fun _ _ _ h => h) (by rfl) (fun w hSw => ?_) (by assumption) ?_
  rotate_left
  · (try dsimp only at hSw); first | (go_simp; done) | (go_simp; with_reducible rfl)
  simp only [List.setIfInBounds_toArray, List.set_cons_zero, List.set_cons_succ]
  refine heldTake (v := ?_) 6 20 rfl rfl (by kernel_rfl) (by kernel_rfl) (by kernel_rfl) (fun _ _ _ h => h) (by rfl) (fun w hSw => ?_) (by assumption) ?_
  rotate_left
  · (try dsimp only at hSw); first | (go_simp; done) | (go_simp; with_reducible rfl)
  simp only [List.setIfInBounds_toArray, List.set_cons_zero, List.set_cons_succ]
  refine heldOne 7 rfl (by kernel_rfl) (by rfl) (fun K2 hK => ?_)
  go_simp
  refine (CC _).mono ?_
  rintro e wz ⟨rfl, hb⟩
  simp only []
  refine hK.out _ _ ?_ (fun hHeld => ?_)
  · first | exact keepP9 (by assumption) (by assumption) | exact keepP9 (Below.refl _ _).drew (by assumption)
  clear hK K2
  try simp only [List.setIfInBounds_toArray, List.set_cons_zero, List.set_cons_succ]
  refine heldTake (v := ?_) 8 22 rfl rfl (by kernel_rfl) (by kernel_rfl) (by kernel_rfl) (fun _ _ _ h => h) (by rfl) (fun w hSw => ?_) (by assumption) ?_
  rotate_left
  · (try dsimp only at hSw); first | (go_simp; done) | (go_simp; with_reducible rfl)
  simp only [List.setIfInBounds_toArray, List.set_cons_zero, List.set_cons_succ]
  refine heldTake (v := ?_) 9 4 rfl rfl (by kernel_rfl) (by kernel_rfl) (by kernel_rfl) (fun _ _ _ h => h) (by rfl) (fun w hSw => ?_) (by assumption) ?_
  rotate_left
  · (try dsimp only at hSw); first | (go_simp; done) | (go_simp; with_reducible rfl)
  simp only [List.setIfInBounds_toArray, List.set_cons_zero, List.set_cons_succ]
  refine wpAnyH_done (by kernel_rfl) ?_ _
  have HB9 : Hid (Below w.heap.size w _) := hHeld.2.2.2.2.2.2.2.2.2
  clear hHeld HS
  go_wp2
  go_ret
  exact ⟨by rw [HE.out]; rfl, HB9.out⟩

set_option maxRecDepth 100000 in
set_option maxHeartbeats 4000000 in
theorem pHolds_2 (x : PPr) (a : Option Addr) (n cap : Nat) (R : List PV) (w : World) (hn : R.length = n) (h4 : n ≤ 65536) (hr : RdV w a R) (hh : hasB x n = true) (hk : x.kind = 2) :
    Calls Try.prog 13 #[.agg (cellsP x), .slice a n cap] w fun e w' => e = .returned (.bool (holdsP x R)) ∧ Below w.heap.size w w' := by
  have HN : Hid (R.length = n) := hn
  have HR : Hid (RdV w a R) := hr
  clear hn hr
  have HE := holdsP_2 (R := R) (by rw [HN.out]; exact hh) hk
  obtain ⟨i, hi, hin⟩ := has_col hh
  have hil : i < R.length := by rw [HN.out]; exact hin
  obtain ⟨b, off, rfl, hc⟩ := HR.out (by omega)
  obtain ⟨y0, y1, y2⟩ := hc i hil
  rw [hi, atV_nat R i hil] at HE
  have i0 : (0 : Int) ≤ (i : Int) := by omega
  have i1 : (i : Int) < (n : Int) := by omega
  generalize R[i] = u at *
  obtain ⟨u0, u1, u2⟩ := u
  simp only at y0 y1 y2
  clear hc hil HR
  obtain ⟨k, c, o, vk, vi, vs⟩ := x
  try simp only at hh hi hk
  simp only [cellsP]
  subst hi
  subst hk
  have CC := valueCompare u0 u1 u2 vk vi vs
  obtain ⟨q, hq⟩ : ∃ q, cmpV ⟨u0, u1, u2⟩ ⟨vk, vi, vs⟩ = q := ⟨_, rfl⟩
  rw [hq] at CC HE
  clear hq
  have HE : Hid (holdsP _ R = _) := HE
  have CH := pHas_any ⟨2, (i : Int), o, vk, vi, vs⟩ n
  rw [hh] at CH
  simp only [cellsP] at CH
  go_enter Try.func13, Try.ntmps13
  go_wp2_with fail
  refine (CH _).mono ?_
  rintro e w4 ⟨rfl, hb⟩
  obtain ⟨c0, c1, c2, c3, c4, c5⟩ := box6 hb
  have HB : Hid (Below w.heap.size w w4) := chain (alloc_below _ _) hb
  clear hb CH
  go_upto_region 7 with fail
  have HS : w4.drew.cell? ⟨w.heap.size, 0, none⟩ = some (.int .i64 2) ∧ w4.drew.cell? ⟨w.heap.size, 1, none⟩ = some (.int .i64 i) ∧ w4.drew.cell? ⟨w.heap.size, 2, none⟩ = some (.int .i64 o) ∧ w4.drew.cell? ⟨w.heap.size, 3, none⟩ = some (.int .i64 vk) ∧ w4.drew.cell? ⟨w.heap.size, 4, none⟩ = some (.int .i64 vi) ∧ w4.drew.cell? ⟨w.heap.size, 5, none⟩ = some (.string vs) ∧ w4.drew.cell? ⟨b, off + i * 3, none⟩ = some (.int .i64 u0) ∧ w4.drew.cell? ⟨b, off + i * 3 + 1, none⟩ = some (.int .i64 u1) ∧ w4.drew.cell? ⟨b, off + i * 3 + 2, none⟩ = some (.string u2) ∧ Hid (Below w.heap.size w w4.drew) := keepP9 (Below.refl _ _).drew ⟨c0, c1, c2, c3, c4, c5, cell_later HB.out y0, cell_later HB.out y1, cell_later HB.out y2, HB⟩
  clear c0 c1 c2 c3 c4 c5 y0 y1 y2 HB
  refine wp_region_held_drew (S := (fun w' => w'.cell? ⟨w.heap.size, 0, none⟩ = some (.int .i64 2) ∧ w'.cell? ⟨w.heap.size, 1, none⟩ = some (.int .i64 i) ∧ w'.cell? ⟨w.heap.size, 2, none⟩ = some (.int .i64 o) ∧ w'.cell? ⟨w.heap.size, 3, none⟩ = some (.int .i64 vk) ∧ w'.cell? ⟨w.heap.size, 4, none⟩ = some (.int .i64 vi) ∧ w'.cell? ⟨w.heap.size, 5, none⟩ = some (.string vs) ∧ w'.cell? ⟨b, off + i * 3, none⟩ = some (.int .i64 u0) ∧ w'.cell? ⟨b, off + i * 3 + 1, none⟩ = some (.int .i64 u1) ∧ w'.cell? ⟨b, off + i * 3 + 2, none⟩ = some (.string u2) ∧ Hid (Below w.heap.size w w'))) (by kernel_rfl) HS (fun hHeld => ?_)
  refine heldTake (v := ?_) 0 25 rfl rfl (by kernel_rfl) (by kernel_rfl) (by kernel_rfl) (fun _ _ _ h => h) (by rfl) (fun w hSw => ?_) (by assumption) ?_
  rotate_left
  · (try dsimp only at hSw); first | (go_simp; done) | (go_simp; with_reducible rfl)
  simp only [List.setIfInBounds_toArray, List.set_cons_zero, List.set_cons_succ]
  refine heldTake (v := ?_) 1 26 rfl rfl (by kernel_rfl) (by kernel_rfl) (by kernel_rfl) (fun _ _ _ h => h) (by rfl) (fun w hSw => ?_) (by assumption) ?_
  rotate_left
  · (try dsimp only at hSw); first | (go_simp; done) | (go_simp; with_reducible rfl)
  simp only [List.setIfInBounds_toArray, List.set_cons_zero, List.set_cons_succ]
  refine heldTake (v := ?_) 2 27 rfl rfl (by kernel_rfl) (by kernel_rfl) (by kernel_rfl) (fun _ _ _ h => h) (by rfl) (fun w hSw => ?_) (by assumption) ?_
  rotate_left
  · (try dsimp only at hSw); first | (go_simp; done) | (go_simp; with_reducible rfl)
  simp only [List.setIfInBounds_toArray, List.set_cons_zero, List.set_cons_succ]
  refine heldTake (v := ?_) 3 28 rfl rfl (by kernel_rfl) (by kernel_rfl) (by kernel_rfl) (fun _ _ _ h => h) (by rfl) (fun w hSw => ?_) (by assumption) ?_
  rotate_left
  · (try dsimp only at hSw); first | (go_simp; done) | (go_simp; with_reducible rfl)
  simp only [List.setIfInBounds_toArray, List.set_cons_zero, List.set_cons_succ]
  refine heldTake (v := ?_) 4 29 rfl rfl (by kernel_rfl) (by kernel_rfl) (by kernel_rfl) (fun _ _ _ h => h) (by rfl) (fun w hSw => ?_) (by assumption) ?_
  rotate_left
  · (try dsimp only at hSw); first | (go_simp; done) | (go_simp; with_reducible rfl)
  simp only [List.setIfInBounds_toArray, List.set_cons_zero, List.set_cons_succ]
  refine heldTake (v := ?_) 5 30 rfl rfl (by kernel_rfl) (by kernel_rfl) (by kernel_rfl) (fun _ _ _ h => h) (by rfl) (fun w hSw => ?_) (by assumption) ?_
  rotate_left
  · (try dsimp only at hSw); first | (go_simp; done) | (go_simp; with_reducible rfl)
  simp only [List.setIfInBounds_toArray, List.set_cons_zero, List.set_cons_succ]
  refine heldTake (v := ?_) 6 31 rfl rfl (by kernel_rfl) (by kernel_rfl) (by kernel_rfl) (fun _ _ _ h => h) (by rfl) (fun w hSw => ?_) (by assumption) ?_
  rotate_left
  · (try dsimp only at hSw); first | (go_simp; done) | (go_simp; with_reducible rfl)
  simp only [List.setIfInBounds_toArray, List.set_cons_zero, List.set_cons_succ]
  refine heldOne 7 rfl (by kernel_rfl) (by rfl) (fun K2 hK => ?_)
  go_simp
  refine (CC _).mono ?_
  rintro e wz ⟨rfl, hb⟩
  simp only []
  refine hK.out _ _ ?_ (fun hHeld => ?_)
  · first | exact keepP9 (by assumption) (by assumption) | exact keepP9 (Below.refl _ _).drew (by assumption)
  clear hK K2
  try simp only [List.setIfInBounds_toArray, List.set_cons_zero, List.set_cons_succ]
  refine heldTake (v := ?_) 8 33 rfl rfl (by kernel_rfl) (by kernel_rfl) (by kernel_rfl) (fun _ _ _ h => h) (by rfl) (fun w hSw => ?_) (by assumption) ?_
  rotate_left
  · (try dsimp only at hSw); first | (go_simp; done) | (go_simp; with_reducible rfl)
  simp only [List.setIfInBounds_toArray, List.set_cons_zero, List.set_cons_succ]
  refine heldTake (v := ?_) 9 4 rfl rfl (by kernel_rfl) (by kernel_rfl) (by kernel_rfl) (fun _ _ _ h => h) (by rfl) (fun w hSw => ?_) (by assumption) ?_
  rotate_left
  · (try dsimp only at hSw); first | (go_simp; done) | (go_simp; with_reducible rfl)
  simp only [List.setIfInBounds_toArray, List.set_cons_zero, List.set_cons_succ]
  refine wpAnyH_done (by kernel_rfl) ?_ _
  have HB9 : Hid (Below w.heap.size w _) := hHeld.2.2.2.2.2.2.2.2.2
  clear hHeld HS
  go_wp2
  go_ret
  exact ⟨by rw [HE.out]; rfl, HB9.out⟩

set_option maxRecDepth 100000 in
set_option maxHeartbeats 4000000 in
theorem pHolds_3 (x : PPr) (a : Option Addr) (n cap : Nat) (R : List PV) (w : World) (hn : R.length = n) (h4 : n ≤ 65536) (hr : RdV w a R) (hh : hasB x n = true) (hk : x.kind = 3) :
    Calls Try.prog 13 #[.agg (cellsP x), .slice a n cap] w fun e w' => e = .returned (.bool (holdsP x R)) ∧ Below w.heap.size w w' := by
  have HN : Hid (R.length = n) := hn
  have HR : Hid (RdV w a R) := hr
  clear hn hr
  have HE := holdsP_3 (R := R) (by rw [HN.out]; exact hh) hk
  have ho : askO x.kind = true := by rw [hk]; rfl
  obtain ⟨i, hi, hin⟩ := has_col hh
  have hil : i < R.length := by rw [HN.out]; exact hin
  obtain ⟨b, off, rfl, hc⟩ := HR.out (by omega)
  obtain ⟨y0, y1, y2⟩ := hc i hil
  rw [hi, atV_nat R i hil] at HE
  have i0 : (0 : Int) ≤ (i : Int) := by omega
  have i1 : (i : Int) < (n : Int) := by omega
  obtain ⟨j, hj, hjn⟩ := has_oth hh ho
  have hjl : j < R.length := by rw [HN.out]; exact hjn
  obtain ⟨z0, z1, z2⟩ := hc j hjl
  rw [hj, atV_nat R j hjl] at HE
  have j0 : (0 : Int) ≤ (j : Int) := by omega
  have j1 : (j : Int) < (n : Int) := by omega
  generalize R[i] = u at *
  generalize R[j] = v at *
  obtain ⟨u0, u1, u2⟩ := u
  obtain ⟨v0, v1, v2⟩ := v
  simp only at y0 y1 y2 z0 z1 z2
  clear hc hil HR hjl ho
  obtain ⟨k, c, o, vk, vi, vs⟩ := x
  try simp only at hh hi hk hj
  simp only [cellsP]
  subst hi
  subst hj
  subst hk
  have CC := valueCompare u0 u1 u2 v0 v1 v2
  obtain ⟨q, hq⟩ : ∃ q, cmpV ⟨u0, u1, u2⟩ ⟨v0, v1, v2⟩ = q := ⟨_, rfl⟩
  rw [hq] at CC HE
  clear hq
  have HE : Hid (holdsP _ R = _) := HE
  have CH := pHas_any ⟨3, (i : Int), (j : Int), vk, vi, vs⟩ n
  rw [hh] at CH
  simp only [cellsP] at CH
  go_enter Try.func13, Try.ntmps13
  go_wp2_with fail
  refine (CH _).mono ?_
  rintro e w4 ⟨rfl, hb⟩
  obtain ⟨c0, c1, c2, c3, c4, c5⟩ := box6 hb
  have HB : Hid (Below w.heap.size w w4) := chain (alloc_below _ _) hb
  clear hb CH
  go_upto_region 9 with fail
  have HS : w4.drew.cell? ⟨w.heap.size, 0, none⟩ = some (.int .i64 3) ∧ w4.drew.cell? ⟨w.heap.size, 1, none⟩ = some (.int .i64 i) ∧ w4.drew.cell? ⟨w.heap.size, 2, none⟩ = some (.int .i64 j) ∧ w4.drew.cell? ⟨w.heap.size, 3, none⟩ = some (.int .i64 vk) ∧ w4.drew.cell? ⟨w.heap.size, 4, none⟩ = some (.int .i64 vi) ∧ w4.drew.cell? ⟨w.heap.size, 5, none⟩ = some (.string vs) ∧ w4.drew.cell? ⟨b, off + i * 3, none⟩ = some (.int .i64 u0) ∧ w4.drew.cell? ⟨b, off + i * 3 + 1, none⟩ = some (.int .i64 u1) ∧ w4.drew.cell? ⟨b, off + i * 3 + 2, none⟩ = some (.string u2) ∧ w4.drew.cell? ⟨b, off + j * 3, none⟩ = some (.int .i64 v0) ∧ w4.drew.cell? ⟨b, off + j * 3 + 1, none⟩ = some (.int .i64 v1) ∧ w4.drew.cell? ⟨b, off + j * 3 + 2, none⟩ = some (.string v2) ∧ Hid (Below w.heap.size w w4.drew) := keepP12 (Below.refl _ _).drew ⟨c0, c1, c2, c3, c4, c5, cell_later HB.out y0, cell_later HB.out y1, cell_later HB.out y2, cell_later HB.out z0, cell_later HB.out z1, cell_later HB.out z2, HB⟩
  clear c0 c1 c2 c3 c4 c5 y0 y1 y2 z0 z1 z2 HB
  refine wp_region_held_drew (S := (fun w' => w'.cell? ⟨w.heap.size, 0, none⟩ = some (.int .i64 3) ∧ w'.cell? ⟨w.heap.size, 1, none⟩ = some (.int .i64 i) ∧ w'.cell? ⟨w.heap.size, 2, none⟩ = some (.int .i64 j) ∧ w'.cell? ⟨w.heap.size, 3, none⟩ = some (.int .i64 vk) ∧ w'.cell? ⟨w.heap.size, 4, none⟩ = some (.int .i64 vi) ∧ w'.cell? ⟨w.heap.size, 5, none⟩ = some (.string vs) ∧ w'.cell? ⟨b, off + i * 3, none⟩ = some (.int .i64 u0) ∧ w'.cell? ⟨b, off + i * 3 + 1, none⟩ = some (.int .i64 u1) ∧ w'.cell? ⟨b, off + i * 3 + 2, none⟩ = some (.string u2) ∧ w'.cell? ⟨b, off + j * 3, none⟩ = some (.int .i64 v0) ∧ w'.cell? ⟨b, off + j * 3 + 1, none⟩ = some (.int .i64 v1) ∧ w'.cell? ⟨b, off + j * 3 + 2, none⟩ = some (.string v2) ∧ Hid (Below w.heap.size w w'))) (by kernel_rfl) HS (fun hHeld => ?_)
  refine heldTake (v := ?_) 0 36 rfl rfl (by kernel_rfl) (by kernel_rfl) (by kernel_rfl) (fun _ _ _ h => h) (by rfl) (fun w hSw => ?_) (by assumption) ?_
  rotate_left
  · (try dsimp only at hSw); first | (go_simp; done) | (go_simp; with_reducible rfl)
  simp only [List.setIfInBounds_toArray, List.set_cons_zero, List.set_cons_succ]
  refine heldTake (v := ?_) 1 37 rfl rfl (by kernel_rfl) (by kernel_rfl) (by kernel_rfl) (fun _ _ _ h => h) (by rfl) (fun w hSw => ?_) (by assumption) ?_
  rotate_left
  · (try dsimp only at hSw); first | (go_simp; done) | (go_simp; with_reducible rfl)
  simp only [List.setIfInBounds_toArray, List.set_cons_zero, List.set_cons_succ]
  refine heldTake (v := ?_) 2 38 rfl rfl (by kernel_rfl) (by kernel_rfl) (by kernel_rfl) (fun _ _ _ h => h) (by rfl) (fun w hSw => ?_) (by assumption) ?_
  rotate_left
  · (try dsimp only at hSw); first | (go_simp; done) | (go_simp; with_reducible rfl)
  simp only [List.setIfInBounds_toArray, List.set_cons_zero, List.set_cons_succ]
  refine heldTake (v := ?_) 3 39 rfl rfl (by kernel_rfl) (by kernel_rfl) (by kernel_rfl) (fun _ _ _ h => h) (by rfl) (fun w hSw => ?_) (by assumption) ?_
  rotate_left
  · (try dsimp only at hSw); first | (go_simp; done) | (go_simp; with_reducible rfl)
  simp only [List.setIfInBounds_toArray, List.set_cons_zero, List.set_cons_succ]
  refine heldTake (v := ?_) 4 40 rfl rfl (by kernel_rfl) (by kernel_rfl) (by kernel_rfl) (fun _ _ _ h => h) (by rfl) (fun w hSw => ?_) (by assumption) ?_
  rotate_left
  · (try dsimp only at hSw); first | (go_simp; done) | (go_simp; with_reducible rfl)
  simp only [List.setIfInBounds_toArray, List.set_cons_zero, List.set_cons_succ]
  refine heldTake (v := ?_) 5 41 rfl rfl (by kernel_rfl) (by kernel_rfl) (by kernel_rfl) (fun _ _ _ h => h) (by rfl) (fun w hSw => ?_) (by assumption) ?_
  rotate_left
  · (try dsimp only at hSw); first | (go_simp; done) | (go_simp; with_reducible rfl)
  simp only [List.setIfInBounds_toArray, List.set_cons_zero, List.set_cons_succ]
  refine heldTake (v := ?_) 6 42 rfl rfl (by kernel_rfl) (by kernel_rfl) (by kernel_rfl) (fun _ _ _ h => h) (by rfl) (fun w hSw => ?_) (by assumption) ?_
  rotate_left
  · (try dsimp only at hSw); first | (go_simp; done) | (go_simp; with_reducible rfl)
  simp only [List.setIfInBounds_toArray, List.set_cons_zero, List.set_cons_succ]
  refine heldTake (v := ?_) 7 43 rfl rfl (by kernel_rfl) (by kernel_rfl) (by kernel_rfl) (fun _ _ _ h => h) (by rfl) (fun w hSw => ?_) (by assumption) ?_
  rotate_left
  · (try dsimp only at hSw); first | (go_simp; done) | (go_simp; with_reducible rfl)
  simp only [List.setIfInBounds_toArray, List.set_cons_zero, List.set_cons_succ]
  refine heldTake (v := ?_) 8 44 rfl rfl (by kernel_rfl) (by kernel_rfl) (by kernel_rfl) (fun _ _ _ h => h) (by rfl) (fun w hSw => ?_) (by assumption) ?_
  rotate_left
  · (try dsimp only at hSw); first | (go_simp; done) | (go_simp; with_reducible rfl)
  simp only [List.setIfInBounds_toArray, List.set_cons_zero, List.set_cons_succ]
  refine heldTake (v := ?_) 9 45 rfl rfl (by kernel_rfl) (by kernel_rfl) (by kernel_rfl) (fun _ _ _ h => h) (by rfl) (fun w hSw => ?_) (by assumption) ?_
  rotate_left
  · (try dsimp only at hSw); first | (go_simp; done) | (go_simp; with_reducible rfl)
  simp only [List.setIfInBounds_toArray, List.set_cons_zero, List.set_cons_succ]
  refine heldOne 10 rfl (by kernel_rfl) (by rfl) (fun K2 hK => ?_)
  go_simp
  refine (CC _).mono ?_
  rintro e wz ⟨rfl, hb⟩
  simp only []
  refine hK.out _ _ ?_ (fun hHeld => ?_)
  · first | exact keepP12 (by assumption) (by assumption) | exact keepP12 (Below.refl _ _).drew (by assumption)
  clear hK K2
  try simp only [List.setIfInBounds_toArray, List.set_cons_zero, List.set_cons_succ]
  refine heldTake (v := ?_) 11 47 rfl rfl (by kernel_rfl) (by kernel_rfl) (by kernel_rfl) (fun _ _ _ h => h) (by rfl) (fun w hSw => ?_) (by assumption) ?_
  rotate_left
  · (try dsimp only at hSw); first | (go_simp; done) | (go_simp; with_reducible rfl)
  simp only [List.setIfInBounds_toArray, List.set_cons_zero, List.set_cons_succ]
  refine heldTake (v := ?_) 12 4 rfl rfl (by kernel_rfl) (by kernel_rfl) (by kernel_rfl) (fun _ _ _ h => h) (by rfl) (fun w hSw => ?_) (by assumption) ?_
  rotate_left
  · (try dsimp only at hSw); first | (go_simp; done) | (go_simp; with_reducible rfl)
  simp only [List.setIfInBounds_toArray, List.set_cons_zero, List.set_cons_succ]
  refine wpAnyH_done (by kernel_rfl) ?_ _
  have HB9 : Hid (Below w.heap.size w _) := hHeld.2.2.2.2.2.2.2.2.2.2.2.2
  clear hHeld HS
  go_wp2
  go_ret
  exact ⟨by rw [HE.out]; rfl, HB9.out⟩

set_option maxRecDepth 100000 in
set_option maxHeartbeats 4000000 in
theorem pHolds_4 (x : PPr) (a : Option Addr) (n cap : Nat) (R : List PV) (w : World) (hn : R.length = n) (h4 : n ≤ 65536) (hr : RdV w a R) (hh : hasB x n = true) (hk : x.kind = 4) :
    Calls Try.prog 13 #[.agg (cellsP x), .slice a n cap] w fun e w' => e = .returned (.bool (holdsP x R)) ∧ Below w.heap.size w w' := by
  have HN : Hid (R.length = n) := hn
  have HR : Hid (RdV w a R) := hr
  clear hn hr
  have HE := holdsP_4 (R := R) (by rw [HN.out]; exact hh) hk
  have ho : askO x.kind = true := by rw [hk]; rfl
  obtain ⟨i, hi, hin⟩ := has_col hh
  have hil : i < R.length := by rw [HN.out]; exact hin
  obtain ⟨b, off, rfl, hc⟩ := HR.out (by omega)
  obtain ⟨y0, y1, y2⟩ := hc i hil
  rw [hi, atV_nat R i hil] at HE
  have i0 : (0 : Int) ≤ (i : Int) := by omega
  have i1 : (i : Int) < (n : Int) := by omega
  obtain ⟨j, hj, hjn⟩ := has_oth hh ho
  have hjl : j < R.length := by rw [HN.out]; exact hjn
  obtain ⟨z0, z1, z2⟩ := hc j hjl
  rw [hj, atV_nat R j hjl] at HE
  have j0 : (0 : Int) ≤ (j : Int) := by omega
  have j1 : (j : Int) < (n : Int) := by omega
  generalize R[i] = u at *
  generalize R[j] = v at *
  obtain ⟨u0, u1, u2⟩ := u
  obtain ⟨v0, v1, v2⟩ := v
  simp only at y0 y1 y2 z0 z1 z2
  clear hc hil HR hjl ho
  obtain ⟨k, c, o, vk, vi, vs⟩ := x
  try simp only at hh hi hk hj
  simp only [cellsP]
  subst hi
  subst hj
  subst hk
  have CC := valueCompare u0 u1 u2 v0 v1 v2
  obtain ⟨q, hq⟩ : ∃ q, cmpV ⟨u0, u1, u2⟩ ⟨v0, v1, v2⟩ = q := ⟨_, rfl⟩
  rw [hq] at CC HE
  clear hq
  have HE : Hid (holdsP _ R = _) := HE
  have CH := pHas_any ⟨4, (i : Int), (j : Int), vk, vi, vs⟩ n
  rw [hh] at CH
  simp only [cellsP] at CH
  go_enter Try.func13, Try.ntmps13
  go_wp2_with fail
  refine (CH _).mono ?_
  rintro e w4 ⟨rfl, hb⟩
  obtain ⟨c0, c1, c2, c3, c4, c5⟩ := box6 hb
  have HB : Hid (Below w.heap.size w w4) := chain (alloc_below _ _) hb
  clear hb CH
  go_upto_region 11 with fail
  have HS : w4.drew.cell? ⟨w.heap.size, 0, none⟩ = some (.int .i64 4) ∧ w4.drew.cell? ⟨w.heap.size, 1, none⟩ = some (.int .i64 i) ∧ w4.drew.cell? ⟨w.heap.size, 2, none⟩ = some (.int .i64 j) ∧ w4.drew.cell? ⟨w.heap.size, 3, none⟩ = some (.int .i64 vk) ∧ w4.drew.cell? ⟨w.heap.size, 4, none⟩ = some (.int .i64 vi) ∧ w4.drew.cell? ⟨w.heap.size, 5, none⟩ = some (.string vs) ∧ w4.drew.cell? ⟨b, off + i * 3, none⟩ = some (.int .i64 u0) ∧ w4.drew.cell? ⟨b, off + i * 3 + 1, none⟩ = some (.int .i64 u1) ∧ w4.drew.cell? ⟨b, off + i * 3 + 2, none⟩ = some (.string u2) ∧ w4.drew.cell? ⟨b, off + j * 3, none⟩ = some (.int .i64 v0) ∧ w4.drew.cell? ⟨b, off + j * 3 + 1, none⟩ = some (.int .i64 v1) ∧ w4.drew.cell? ⟨b, off + j * 3 + 2, none⟩ = some (.string v2) ∧ Hid (Below w.heap.size w w4.drew) := keepP12 (Below.refl _ _).drew ⟨c0, c1, c2, c3, c4, c5, cell_later HB.out y0, cell_later HB.out y1, cell_later HB.out y2, cell_later HB.out z0, cell_later HB.out z1, cell_later HB.out z2, HB⟩
  clear c0 c1 c2 c3 c4 c5 y0 y1 y2 z0 z1 z2 HB
  refine wp_region_held_drew (S := (fun w' => w'.cell? ⟨w.heap.size, 0, none⟩ = some (.int .i64 4) ∧ w'.cell? ⟨w.heap.size, 1, none⟩ = some (.int .i64 i) ∧ w'.cell? ⟨w.heap.size, 2, none⟩ = some (.int .i64 j) ∧ w'.cell? ⟨w.heap.size, 3, none⟩ = some (.int .i64 vk) ∧ w'.cell? ⟨w.heap.size, 4, none⟩ = some (.int .i64 vi) ∧ w'.cell? ⟨w.heap.size, 5, none⟩ = some (.string vs) ∧ w'.cell? ⟨b, off + i * 3, none⟩ = some (.int .i64 u0) ∧ w'.cell? ⟨b, off + i * 3 + 1, none⟩ = some (.int .i64 u1) ∧ w'.cell? ⟨b, off + i * 3 + 2, none⟩ = some (.string u2) ∧ w'.cell? ⟨b, off + j * 3, none⟩ = some (.int .i64 v0) ∧ w'.cell? ⟨b, off + j * 3 + 1, none⟩ = some (.int .i64 v1) ∧ w'.cell? ⟨b, off + j * 3 + 2, none⟩ = some (.string v2) ∧ Hid (Below w.heap.size w w'))) (by kernel_rfl) HS (fun hHeld => ?_)
  refine heldTake (v := ?_) 0 50 rfl rfl (by kernel_rfl) (by kernel_rfl) (by kernel_rfl) (fun _ _ _ h => h) (by rfl) (fun w hSw => ?_) (by assumption) ?_
  rotate_left
  · (try dsimp only at hSw); first | (go_simp; done) | (go_simp; with_reducible rfl)
  simp only [List.setIfInBounds_toArray, List.set_cons_zero, List.set_cons_succ]
  refine heldTake (v := ?_) 1 51 rfl rfl (by kernel_rfl) (by kernel_rfl) (by kernel_rfl) (fun _ _ _ h => h) (by rfl) (fun w hSw => ?_) (by assumption) ?_
  rotate_left
  · (try dsimp only at hSw); first | (go_simp; done) | (go_simp; with_reducible rfl)
  simp only [List.setIfInBounds_toArray, List.set_cons_zero, List.set_cons_succ]
  refine heldTake (v := ?_) 2 52 rfl rfl (by kernel_rfl) (by kernel_rfl) (by kernel_rfl) (fun _ _ _ h => h) (by rfl) (fun w hSw => ?_) (by assumption) ?_
  rotate_left
  · (try dsimp only at hSw); first | (go_simp; done) | (go_simp; with_reducible rfl)
  simp only [List.setIfInBounds_toArray, List.set_cons_zero, List.set_cons_succ]
  refine heldTake (v := ?_) 3 53 rfl rfl (by kernel_rfl) (by kernel_rfl) (by kernel_rfl) (fun _ _ _ h => h) (by rfl) (fun w hSw => ?_) (by assumption) ?_
  rotate_left
  · (try dsimp only at hSw); first | (go_simp; done) | (go_simp; with_reducible rfl)
  simp only [List.setIfInBounds_toArray, List.set_cons_zero, List.set_cons_succ]
  refine heldTake (v := ?_) 4 54 rfl rfl (by kernel_rfl) (by kernel_rfl) (by kernel_rfl) (fun _ _ _ h => h) (by rfl) (fun w hSw => ?_) (by assumption) ?_
  rotate_left
  · (try dsimp only at hSw); first | (go_simp; done) | (go_simp; with_reducible rfl)
  simp only [List.setIfInBounds_toArray, List.set_cons_zero, List.set_cons_succ]
  refine heldTake (v := ?_) 5 55 rfl rfl (by kernel_rfl) (by kernel_rfl) (by kernel_rfl) (fun _ _ _ h => h) (by rfl) (fun w hSw => ?_) (by assumption) ?_
  rotate_left
  · (try dsimp only at hSw); first | (go_simp; done) | (go_simp; with_reducible rfl)
  simp only [List.setIfInBounds_toArray, List.set_cons_zero, List.set_cons_succ]
  refine heldTake (v := ?_) 6 56 rfl rfl (by kernel_rfl) (by kernel_rfl) (by kernel_rfl) (fun _ _ _ h => h) (by rfl) (fun w hSw => ?_) (by assumption) ?_
  rotate_left
  · (try dsimp only at hSw); first | (go_simp; done) | (go_simp; with_reducible rfl)
  simp only [List.setIfInBounds_toArray, List.set_cons_zero, List.set_cons_succ]
  refine heldTake (v := ?_) 7 57 rfl rfl (by kernel_rfl) (by kernel_rfl) (by kernel_rfl) (fun _ _ _ h => h) (by rfl) (fun w hSw => ?_) (by assumption) ?_
  rotate_left
  · (try dsimp only at hSw); first | (go_simp; done) | (go_simp; with_reducible rfl)
  simp only [List.setIfInBounds_toArray, List.set_cons_zero, List.set_cons_succ]
  refine heldTake (v := ?_) 8 58 rfl rfl (by kernel_rfl) (by kernel_rfl) (by kernel_rfl) (fun _ _ _ h => h) (by rfl) (fun w hSw => ?_) (by assumption) ?_
  rotate_left
  · (try dsimp only at hSw); first | (go_simp; done) | (go_simp; with_reducible rfl)
  simp only [List.setIfInBounds_toArray, List.set_cons_zero, List.set_cons_succ]
  refine heldTake (v := ?_) 9 59 rfl rfl (by kernel_rfl) (by kernel_rfl) (by kernel_rfl) (fun _ _ _ h => h) (by rfl) (fun w hSw => ?_) (by assumption) ?_
  rotate_left
  · (try dsimp only at hSw); first | (go_simp; done) | (go_simp; with_reducible rfl)
  simp only [List.setIfInBounds_toArray, List.set_cons_zero, List.set_cons_succ]
  refine heldOne 10 rfl (by kernel_rfl) (by rfl) (fun K2 hK => ?_)
  go_simp
  refine (CC _).mono ?_
  rintro e wz ⟨rfl, hb⟩
  simp only []
  refine hK.out _ _ ?_ (fun hHeld => ?_)
  · first | exact keepP12 (by assumption) (by assumption) | exact keepP12 (Below.refl _ _).drew (by assumption)
  clear hK K2
  try simp only [List.setIfInBounds_toArray, List.set_cons_zero, List.set_cons_succ]
  refine heldTake (v := ?_) 11 61 rfl rfl (by kernel_rfl) (by kernel_rfl) (by kernel_rfl) (fun _ _ _ h => h) (by rfl) (fun w hSw => ?_) (by assumption) ?_
  rotate_left
  · (try dsimp only at hSw); first | (go_simp; done) | (go_simp; with_reducible rfl)
  simp only [List.setIfInBounds_toArray, List.set_cons_zero, List.set_cons_succ]
  refine heldTake (v := ?_) 12 4 rfl rfl (by kernel_rfl) (by kernel_rfl) (by kernel_rfl) (fun _ _ _ h => h) (by rfl) (fun w hSw => ?_) (by assumption) ?_
  rotate_left
  · (try dsimp only at hSw); first | (go_simp; done) | (go_simp; with_reducible rfl)
  simp only [List.setIfInBounds_toArray, List.set_cons_zero, List.set_cons_succ]
  refine wpAnyH_done (by kernel_rfl) ?_ _
  have HB9 : Hid (Below w.heap.size w _) := hHeld.2.2.2.2.2.2.2.2.2.2.2.2
  clear hHeld HS
  go_wp2
  go_ret
  exact ⟨by rw [HE.out]; rfl, HB9.out⟩

set_option maxRecDepth 100000 in
set_option maxHeartbeats 4000000 in
theorem pHolds_5 (x : PPr) (a : Option Addr) (n cap : Nat) (R : List PV) (w : World) (hn : R.length = n) (h4 : n ≤ 65536) (hr : RdV w a R) (hh : hasB x n = true) (hk : x.kind = 5) :
    Calls Try.prog 13 #[.agg (cellsP x), .slice a n cap] w fun e w' => e = .returned (.bool (holdsP x R)) ∧ Below w.heap.size w w' := by
  have HN : Hid (R.length = n) := hn
  have HR : Hid (RdV w a R) := hr
  clear hn hr
  have HE := holdsP_5 (R := R) (by rw [HN.out]; exact hh) hk
  obtain ⟨i, hi, hin⟩ := has_col hh
  have hil : i < R.length := by rw [HN.out]; exact hin
  obtain ⟨b, off, rfl, hc⟩ := HR.out (by omega)
  obtain ⟨y0, y1, y2⟩ := hc i hil
  rw [hi, atV_nat R i hil] at HE
  have i0 : (0 : Int) ≤ (i : Int) := by omega
  have i1 : (i : Int) < (n : Int) := by omega
  generalize R[i] = u at *
  obtain ⟨u0, u1, u2⟩ := u
  simp only at y0 y1 y2
  clear hc hil HR
  have HE : Hid (holdsP x R = _) := HE
  obtain ⟨k, c, o, vk, vi, vs⟩ := x
  try simp only at hh hi hk
  simp only [cellsP]
  subst hi
  subst hk
  have CH := pHas_any ⟨5, (i : Int), o, vk, vi, vs⟩ n
  rw [hh] at CH
  simp only [cellsP] at CH
  go_enter Try.func13, Try.ntmps13
  go_wp2_with fail
  refine (CH _).mono ?_
  rintro e w4 ⟨rfl, hb⟩
  obtain ⟨c0, c1, c2, c3, c4, c5⟩ := box6 hb
  have HB : Hid (Below w.heap.size w w4) := chain (alloc_below _ _) hb
  clear hb CH
  replace y0 := cell_later HB.out y0
  replace y1 := cell_later HB.out y1
  replace y2 := cell_later HB.out y2
  go_wp2
  go_ret
  exact ⟨by rw [HE.out]; rfl, HB.out⟩

set_option maxRecDepth 100000 in
set_option maxHeartbeats 4000000 in
theorem pHolds_6 (x : PPr) (a : Option Addr) (n cap : Nat) (R : List PV) (w : World) (hn : R.length = n) (h4 : n ≤ 65536) (hr : RdV w a R) (hh : hasB x n = true) (hk : x.kind = 6) :
    Calls Try.prog 13 #[.agg (cellsP x), .slice a n cap] w fun e w' => e = .returned (.bool (holdsP x R)) ∧ Below w.heap.size w w' := by
  have HN : Hid (R.length = n) := hn
  have HR : Hid (RdV w a R) := hr
  clear hn hr
  have HE := holdsP_6 (R := R) (by rw [HN.out]; exact hh) hk
  obtain ⟨i, hi, hin⟩ := has_col hh
  have hil : i < R.length := by rw [HN.out]; exact hin
  obtain ⟨b, off, rfl, hc⟩ := HR.out (by omega)
  obtain ⟨y0, y1, y2⟩ := hc i hil
  rw [hi, atV_nat R i hil] at HE
  have i0 : (0 : Int) ≤ (i : Int) := by omega
  have i1 : (i : Int) < (n : Int) := by omega
  generalize R[i] = u at *
  obtain ⟨u0, u1, u2⟩ := u
  simp only at y0 y1 y2
  clear hc hil HR
  have HE : Hid (holdsP x R = _) := HE
  obtain ⟨k, c, o, vk, vi, vs⟩ := x
  try simp only at hh hi hk
  simp only [cellsP]
  subst hi
  subst hk
  have CH := pHas_any ⟨6, (i : Int), o, vk, vi, vs⟩ n
  rw [hh] at CH
  simp only [cellsP] at CH
  go_enter Try.func13, Try.ntmps13
  go_wp2_with fail
  refine (CH _).mono ?_
  rintro e w4 ⟨rfl, hb⟩
  obtain ⟨c0, c1, c2, c3, c4, c5⟩ := box6 hb
  have HB : Hid (Below w.heap.size w w4) := chain (alloc_below _ _) hb
  clear hb CH
  replace y0 := cell_later HB.out y0
  replace y1 := cell_later HB.out y1
  replace y2 := cell_later HB.out y2
  go_wp2
  go_ret
  exact ⟨by rw [HE.out]; rfl, HB.out⟩

set_option maxRecDepth 100000 in
set_option maxHeartbeats 4000000 in
theorem pHolds_else (x : PPr) (a : Option Addr) (n cap : Nat) (R : List PV) (w : World) (hn : R.length = n) (h4 : n ≤ 65536) (hr : RdV w a R) (hh : hasB x n = true) (hk : ¬ (1 ≤ x.kind ∧ x.kind ≤ 6)) :
    Calls Try.prog 13 #[.agg (cellsP x), .slice a n cap] w fun e w' => e = .returned (.bool (holdsP x R)) ∧ Below w.heap.size w w' := by
  have HN : Hid (R.length = n) := hn
  have HR : Hid (RdV w a R) := hr
  clear hn hr
  have HE : Hid (holdsP x R = false) := holdsP_else hk
  obtain ⟨k, c, o, vk, vi, vs⟩ := x
  try simp only at hh hk
  simp only [cellsP]
  have k1 : ¬ k = 1 := by omega
  have k2 : ¬ k = 2 := by omega
  have k3 : ¬ k = 3 := by omega
  have k4 : ¬ k = 4 := by omega
  have k5 : ¬ k = 5 := by omega
  have k6 : ¬ k = 6 := by omega
  clear hk
  have CH := pHas_any ⟨k, c, o, vk, vi, vs⟩ n
  rw [hh] at CH
  simp only [cellsP] at CH
  go_enter Try.func13, Try.ntmps13
  go_wp2_with fail
  refine (CH _).mono ?_
  rintro e w4 ⟨rfl, hb⟩
  obtain ⟨c0, c1, c2, c3, c4, c5⟩ := box6 hb
  have HB : Hid (Below w.heap.size w w4) := chain (alloc_below _ _) hb
  clear hb CH
  go_wp2
  go_ret
  exact ⟨by rw [HE.out]; rfl, HB.out⟩

theorem pHolds_any (x : PPr) (a : Option Addr) (n cap : Nat) (R : List PV) (w : World) (hn : R.length = n) (h4 : n ≤ 65536) (hr : RdV w a R) :
    Calls Try.prog 13 #[.agg (cellsP x), .slice a n cap] w fun e w' => e = .returned (.bool (holdsP x R)) ∧ Below w.heap.size w w' := by
  cases hh : hasB x n with
  | false => exact pHolds_no x a n cap R w hn h4 hr hh
  | true =>
    by_cases hk : 1 ≤ x.kind ∧ x.kind ≤ 6
    · by_cases h1 : x.kind = 1
      · exact pHolds_1 x a n cap R w hn h4 hr hh h1
      by_cases h2 : x.kind = 2
      · exact pHolds_2 x a n cap R w hn h4 hr hh h2
      by_cases h3 : x.kind = 3
      · exact pHolds_3 x a n cap R w hn h4 hr hh h3
      by_cases h4' : x.kind = 4
      · exact pHolds_4 x a n cap R w hn h4 hr hh h4'
      by_cases h5 : x.kind = 5
      · exact pHolds_5 x a n cap R w hn h4 hr hh h5
      · exact pHolds_6 x a n cap R w hn h4 hr hh (by omega)
    · exact pHolds_else x a n cap R w hn h4 hr hh hk

end Go.Proofs.Ytmolklaammfbmaa
