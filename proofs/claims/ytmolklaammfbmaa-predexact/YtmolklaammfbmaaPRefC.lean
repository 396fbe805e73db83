/-
  What the page's Pred answers.
-/
import Derived.Test.YtmolklaammfbmaaRows
import Derived.Test.YtmolklaammfbmaaPCheck
namespace Go.Proofs.Ytmolklaammfbmaa
open Go.RowKit Go.Lib
set_option linter.unusedVariables false

set_option maxRecDepth 100000 in
set_option maxHeartbeats 4000000 in
theorem rPred_kind (x : PPr) (a : Option Addr) (n cap : Nat) (ts : List Int) (w : World) (hn : ts.length = n) (h4 : n ≤ 65536) (hr : RdI .i64 w a ts) (hk : kindB x.kind = false) :
    Calls Try.prog 12 #[.agg (cellsP x), .slice a n cap] w fun e w' => e = .returned (.int .i64 (chkP x ts)) ∧ Below w.heap.size w w' := by
  have HN : Hid (ts.length = n) := hn
  have HR : Hid (RdI .i64 w a ts) := hr
  clear hn hr
  have HE : Hid (chkP x ts = 1) := chkP_kind hk
  obtain ⟨k, c, o, vk, vi, vs⟩ := x
  try simp only at hk
  simp only [cellsP]
  have k1 : ¬ k = 1 := by intro h; subst h; simp [kindB] at hk
  have k2 : ¬ k = 2 := by intro h; subst h; simp [kindB] at hk
  have k3 : ¬ k = 3 := by intro h; subst h; simp [kindB] at hk
  have k4 : ¬ k = 4 := by intro h; subst h; simp [kindB] at hk
  have ew := wrap_less n h4
  have ew2 : wrap64 ((n : Int) - 1) = (n : Int) - 1 := IntWalk.wrap64_in _ ⟨by omega, by omega⟩
  go_enter Try.func12, Try.ntmps12
  go_wp2_with fail
  refine (p14In_any _ _ _ _).mono ?_
  rintro e w4 ⟨rfl, hb⟩
  rw [show (decide ((1 : Int) ≤ k) && decide ((k : Int) ≤ 6)) = false from hk]
  obtain ⟨c0, c1, c2, c3, c4, c5⟩ := box6 hb
  have HB : Hid (Below w.heap.size w w4) := chain (alloc_below _ _) hb
  clear hb
  go_wp2
  go_ret
  exact ⟨by rw [HE.out]; rfl, HB.out⟩

set_option maxRecDepth 100000 in
set_option maxHeartbeats 4000000 in
theorem rPred1_col (x : PPr) (a : Option Addr) (n cap : Nat) (ts : List Int) (w : World) (hn : ts.length = n) (h4 : n ≤ 65536) (hr : RdI .i64 w a ts) (hk : x.kind = 1) (hp : placeB x.col n = false) :
    Calls Try.prog 12 #[.agg (cellsP x), .slice a n cap] w fun e w' => e = .returned (.int .i64 (chkP x ts)) ∧ Below w.heap.size w w' := by
  have HN : Hid (ts.length = n) := hn
  have HR : Hid (RdI .i64 w a ts) := hr
  clear hn hr
  have HE : Hid (chkP x ts = 1) := chkP_has (by rw [HN.out]; simp [hasB, hp])
  obtain ⟨k, c, o, vk, vi, vs⟩ := x
  try simp only at hk hp
  simp only [cellsP]
  subst hk
  have ew := wrap_less n h4
  have ew2 : wrap64 ((n : Int) - 1) = (n : Int) - 1 := IntWalk.wrap64_in _ ⟨by omega, by omega⟩
  go_enter Try.func12, Try.ntmps12
  go_wp2_with fail
  refine (p14In_any _ _ _ _).mono ?_
  rintro e w4 ⟨rfl, hb⟩
  rw [show (decide ((1 : Int) ≤ 1) && decide ((1 : Int) ≤ 6)) = true from by decide]
  obtain ⟨c0, c1, c2, c3, c4, c5⟩ := box6 hb
  have HB : Hid (Below w.heap.size w w4) := chain (alloc_below _ _) hb
  clear hb
  go_wp2_with fail
  refine (p14Place _ n hp _).mono ?_
  rintro e w5 ⟨rfl, hb⟩
  have HS : w5.cell? ⟨w.heap.size, 0, none⟩ = some (.int .i64 1) ∧ w5.cell? ⟨w.heap.size, 1, none⟩ = some (.int .i64 c) ∧ w5.cell? ⟨w.heap.size, 2, none⟩ = some (.int .i64 o) ∧ w5.cell? ⟨w.heap.size, 3, none⟩ = some (.int .i64 vk) ∧ w5.cell? ⟨w.heap.size, 4, none⟩ = some (.int .i64 vi) ∧ w5.cell? ⟨w.heap.size, 5, none⟩ = some (.string vs) ∧ Hid (Below w.heap.size w w5) := keepP6 hb ⟨c0, c1, c2, c3, c4, c5, HB⟩
  clear c0 c1 c2 c3 c4 c5 HB hb
  obtain ⟨c0, c1, c2, c3, c4, c5, HB⟩ := HS
  go_wp2
  go_ret
  exact ⟨by rw [HE.out]; rfl, HB.out⟩

set_option maxRecDepth 100000 in
set_option maxHeartbeats 4000000 in
theorem rPred1_ok (x : PPr) (a : Option Addr) (n cap : Nat) (ts : List Int) (w : World) (hn : ts.length = n) (h4 : n ≤ 65536) (hr : RdI .i64 w a ts) (hk : x.kind = 1) (hp : placeB x.col n = true) (hq : okV x.val = false) :
    Calls Try.prog 12 #[.agg (cellsP x), .slice a n cap] w fun e w' => e = .returned (.int .i64 (chkP x ts)) ∧ Below w.heap.size w w' := by
  have HN : Hid (ts.length = n) := hn
  have HR : Hid (RdI .i64 w a ts) := hr
  clear hn hr
  have HE : Hid (chkP x ts = 1) := chkP_ok (by rw [hk]; rfl) hq
  obtain ⟨k, c, o, vk, vi, vs⟩ := x
  try simp only at hk hp hq
  simp only [cellsP]
  subst hk
  have ew := wrap_less n h4
  have ew2 : wrap64 ((n : Int) - 1) = (n : Int) - 1 := IntWalk.wrap64_in _ ⟨by omega, by omega⟩
  go_enter Try.func12, Try.ntmps12
  go_wp2_with fail
  refine (p14In_any _ _ _ _).mono ?_
  rintro e w4 ⟨rfl, hb⟩
  rw [show (decide ((1 : Int) ≤ 1) && decide ((1 : Int) ≤ 6)) = true from by decide]
  obtain ⟨c0, c1, c2, c3, c4, c5⟩ := box6 hb
  have HB : Hid (Below w.heap.size w w4) := chain (alloc_below _ _) hb
  clear hb
  go_wp2_with fail
  refine (p14Place _ n hp _).mono ?_
  rintro e w5 ⟨rfl, hb⟩
  have HS : w5.cell? ⟨w.heap.size, 0, none⟩ = some (.int .i64 1) ∧ w5.cell? ⟨w.heap.size, 1, none⟩ = some (.int .i64 c) ∧ w5.cell? ⟨w.heap.size, 2, none⟩ = some (.int .i64 o) ∧ w5.cell? ⟨w.heap.size, 3, none⟩ = some (.int .i64 vk) ∧ w5.cell? ⟨w.heap.size, 4, none⟩ = some (.int .i64 vi) ∧ w5.cell? ⟨w.heap.size, 5, none⟩ = some (.string vs) ∧ Hid (Below w.heap.size w w5) := keepP6 hb ⟨c0, c1, c2, c3, c4, c5, HB⟩
  clear c0 c1 c2 c3 c4 c5 HB hb
  obtain ⟨c0, c1, c2, c3, c4, c5, HB⟩ := HS
  go_wp2_with fail
  refine (rValue_of vk vi vs _ hq).mono ?_
  rintro e w6 ⟨rfl, hb⟩
  have HS : w6.cell? ⟨w.heap.size, 0, none⟩ = some (.int .i64 1) ∧ w6.cell? ⟨w.heap.size, 1, none⟩ = some (.int .i64 c) ∧ w6.cell? ⟨w.heap.size, 2, none⟩ = some (.int .i64 o) ∧ w6.cell? ⟨w.heap.size, 3, none⟩ = some (.int .i64 vk) ∧ w6.cell? ⟨w.heap.size, 4, none⟩ = some (.int .i64 vi) ∧ w6.cell? ⟨w.heap.size, 5, none⟩ = some (.string vs) ∧ Hid (Below w.heap.size w w6) := keepP6 hb ⟨c0, c1, c2, c3, c4, c5, HB⟩
  clear c0 c1 c2 c3 c4 c5 HB hb
  obtain ⟨c0, c1, c2, c3, c4, c5, HB⟩ := HS
  go_wp2
  go_ret
  exact ⟨by rw [HE.out]; rfl, HB.out⟩

set_option maxRecDepth 100000 in
set_option maxHeartbeats 4000000 in
theorem rPred1_true (x : PPr) (a : Option Addr) (n cap : Nat) (ts : List Int) (w : World) (hn : ts.length = n) (h4 : n ≤ 65536) (hr : RdI .i64 w a ts) (hk : x.kind = 1) (hp : placeB x.col n = true) (hq : okV x.val = true) (hf : fitsV x.val (atI ts x.col) = true) :
    Calls Try.prog 12 #[.agg (cellsP x), .slice a n cap] w fun e w' => e = .returned (.int .i64 (chkP x ts)) ∧ Below w.heap.size w w' := by
  have HN : Hid (ts.length = n) := hn
  have HR : Hid (RdI .i64 w a ts) := hr
  clear hn hr
  have hh : hasB x n = true := by simp [hasB, hp, hk, askO]
  have HE : Hid (chkP x ts = if fitsV x.val (atI ts x.col) = true then 0 else 10) := chkP_val (by rw [hk]; rfl) (by rw [HN.out]; exact hh) (by rw [hk]; rfl) (by rw [hk]; rfl) hq
  rw [hf] at HE
  obtain ⟨i, hi, hin⟩ := has_col hh
  have hil : i < ts.length := by rw [HN.out]; exact hin
  obtain ⟨b, off, rfl, hc⟩ := HR.out (by omega)
  have y0 := hc i hil
  rw [hi, atI_nat ts i hil] at hf
  have i0 : (0 : Int) ≤ (i : Int) := by omega
  have i1 : (i : Int) < (n : Int) := by omega
  generalize ts[i] = ty at *
  clear hc hil HR hh
  obtain ⟨k, c, o, vk, vi, vs⟩ := x
  try simp only at hk hp hq hi hf
  simp only [cellsP]
  subst hi
  subst hk
  have CF := rFits_any vk vi vs ty
  rw [hf] at CF
  clear hf
  have ew := wrap_less n h4
  have ew2 : wrap64 ((n : Int) - 1) = (n : Int) - 1 := IntWalk.wrap64_in _ ⟨by omega, by omega⟩
  go_enter Try.func12, Try.ntmps12
  go_wp2_with fail
  refine (p14In_any _ _ _ _).mono ?_
  rintro e w4 ⟨rfl, hb⟩
  rw [show (decide ((1 : Int) ≤ 1) && decide ((1 : Int) ≤ 6)) = true from by decide]
  obtain ⟨c0, c1, c2, c3, c4, c5⟩ := box6 hb
  have HB : Hid (Below w.heap.size w w4) := chain (alloc_below _ _) hb
  clear hb
  go_wp2_with fail
  refine (p14Place _ n hp _).mono ?_
  rintro e w5 ⟨rfl, hb⟩
  have HS : w5.cell? ⟨w.heap.size, 0, none⟩ = some (.int .i64 1) ∧ w5.cell? ⟨w.heap.size, 1, none⟩ = some (.int .i64 i) ∧ w5.cell? ⟨w.heap.size, 2, none⟩ = some (.int .i64 o) ∧ w5.cell? ⟨w.heap.size, 3, none⟩ = some (.int .i64 vk) ∧ w5.cell? ⟨w.heap.size, 4, none⟩ = some (.int .i64 vi) ∧ w5.cell? ⟨w.heap.size, 5, none⟩ = some (.string vs) ∧ Hid (Below w.heap.size w w5) := keepP6 hb ⟨c0, c1, c2, c3, c4, c5, HB⟩
  clear c0 c1 c2 c3 c4 c5 HB hb
  obtain ⟨c0, c1, c2, c3, c4, c5, HB⟩ := HS
  go_wp2_with fail
  refine (rValue_of vk vi vs _ hq).mono ?_
  rintro e w6 ⟨rfl, hb⟩
  have HS : w6.cell? ⟨w.heap.size, 0, none⟩ = some (.int .i64 1) ∧ w6.cell? ⟨w.heap.size, 1, none⟩ = some (.int .i64 i) ∧ w6.cell? ⟨w.heap.size, 2, none⟩ = some (.int .i64 o) ∧ w6.cell? ⟨w.heap.size, 3, none⟩ = some (.int .i64 vk) ∧ w6.cell? ⟨w.heap.size, 4, none⟩ = some (.int .i64 vi) ∧ w6.cell? ⟨w.heap.size, 5, none⟩ = some (.string vs) ∧ Hid (Below w.heap.size w w6) := keepP6 hb ⟨c0, c1, c2, c3, c4, c5, HB⟩
  clear c0 c1 c2 c3 c4 c5 HB hb
  obtain ⟨c0, c1, c2, c3, c4, c5, HB⟩ := HS
  clear hq
  go_upto_region 5 with fail
  have HS : w6.cell? ⟨w.heap.size, 0, none⟩ = some (.int .i64 1) ∧ w6.cell? ⟨w.heap.size, 1, none⟩ = some (.int .i64 i) ∧ w6.cell? ⟨w.heap.size, 2, none⟩ = some (.int .i64 o) ∧ w6.cell? ⟨w.heap.size, 3, none⟩ = some (.int .i64 vk) ∧ w6.cell? ⟨w.heap.size, 4, none⟩ = some (.int .i64 vi) ∧ w6.cell? ⟨w.heap.size, 5, none⟩ = some (.string vs) ∧ w6.cell? ⟨b, off + i, none⟩ = some (.int .i64 ty) ∧ Hid (Below w.heap.size w w6) := ⟨c0, c1, c2, c3, c4, c5, cell_later HB.out y0, HB⟩
  have HS : w6.drew.cell? ⟨w.heap.size, 0, none⟩ = some (.int .i64 1) ∧ w6.drew.cell? ⟨w.heap.size, 1, none⟩ = some (.int .i64 i) ∧ w6.drew.cell? ⟨w.heap.size, 2, none⟩ = some (.int .i64 o) ∧ w6.drew.cell? ⟨w.heap.size, 3, none⟩ = some (.int .i64 vk) ∧ w6.drew.cell? ⟨w.heap.size, 4, none⟩ = some (.int .i64 vi) ∧ w6.drew.cell? ⟨w.heap.size, 5, none⟩ = some (.string vs) ∧ w6.drew.cell? ⟨b, off + i, none⟩ = some (.int .i64 ty) ∧ Hid (Below w.heap.size w w6.drew) := keepP7 (Below.refl _ _).drew HS
  clear c0 c1 c2 c3 c4 c5 y0 HB
  refine wp_region_held_drew (S := (fun w' => w'.cell? ⟨w.heap.size, 0, none⟩ = some (.int .i64 1) ∧ w'.cell? ⟨w.heap.size, 1, none⟩ = some (.int .i64 i) ∧ w'.cell? ⟨w.heap.size, 2, none⟩ = some (.int .i64 o) ∧ w'.cell? ⟨w.heap.size, 3, none⟩ = some (.int .i64 vk) ∧ w'.cell? ⟨w.heap.size, 4, none⟩ = some (.int .i64 vi) ∧ w'.cell? ⟨w.heap.size, 5, none⟩ = some (.string vs) ∧ w'.cell? ⟨b, off + i, none⟩ = some (.int .i64 ty) ∧ Hid (Below w.heap.size w w'))) (by kernel_rfl) HS (fun hHeld => ?_)
  refine heldTake (v := ?_) 0 57 rfl rfl (by kernel_rfl) (by kernel_rfl) (by kernel_rfl) (fun _ _ _ h => h) (by rfl) (fun w hSw => ?_) (by assumption) ?_
  rotate_left
  · (try dsimp only at hSw); first | (go_simp; done) | (go_simp; with_reducible rfl)
  simp only [List.setIfInBounds_toArray, List.set_cons_zero, List.set_cons_succ]
  refine heldTake (v := ?_) 1 58 rfl rfl (by kernel_rfl) (by kernel_rfl) (by kernel_rfl) (fun _ _ _ h => h) (by rfl) (fun w hSw => ?_) (by assumption) ?_
  rotate_left
  · (try dsimp only at hSw); first | (go_simp; done) | (go_simp; with_reducible rfl)
  simp only [List.setIfInBounds_toArray, List.set_cons_zero, List.set_cons_succ]
  refine heldTake (v := ?_) 2 59 rfl rfl (by kernel_rfl) (by kernel_rfl) (by kernel_rfl) (fun _ _ _ h => h) (by rfl) (fun w hSw => ?_) (by assumption) ?_
  rotate_left
  · (try dsimp only at hSw); first | (go_simp; done) | (go_simp; with_reducible rfl)
  simp only [List.setIfInBounds_toArray, List.set_cons_zero, List.set_cons_succ]
  refine heldTake (v := ?_) 3 60 rfl rfl (by kernel_rfl) (by kernel_rfl) (by kernel_rfl) (fun _ _ _ h => h) (by rfl) (fun w hSw => ?_) (by assumption) ?_
  rotate_left
  · (try dsimp only at hSw); first | (go_simp; done) | (go_simp; with_reducible rfl)
  simp only [List.setIfInBounds_toArray, List.set_cons_zero, List.set_cons_succ]
  refine heldTake (v := ?_) 4 61 rfl rfl (by kernel_rfl) (by kernel_rfl) (by kernel_rfl) (fun _ _ _ h => h) (by rfl) (fun w hSw => ?_) (by assumption) ?_
  rotate_left
  · (try dsimp only at hSw); first | (go_simp; done) | (go_simp; with_reducible rfl)
  simp only [List.setIfInBounds_toArray, List.set_cons_zero, List.set_cons_succ]
  refine heldTake (v := ?_) 5 62 rfl rfl (by kernel_rfl) (by kernel_rfl) (by kernel_rfl) (fun _ _ _ h => h) (by rfl) (fun w hSw => ?_) (by assumption) ?_
  rotate_left
  · (try dsimp only at hSw); first | (go_simp; done) | (go_simp; with_reducible rfl)
  simp only [List.setIfInBounds_toArray, List.set_cons_zero, List.set_cons_succ]
  refine heldTake (v := ?_) 6 63 rfl rfl (by kernel_rfl) (by kernel_rfl) (by kernel_rfl) (fun _ _ _ h => h) (by rfl) (fun w hSw => ?_) (by assumption) ?_
  rotate_left
  · (try dsimp only at hSw); first | (go_simp; done) | (go_simp; with_reducible rfl)
  simp only [List.setIfInBounds_toArray, List.set_cons_zero, List.set_cons_succ]
  refine heldTake (v := ?_) 7 64 rfl rfl (by kernel_rfl) (by kernel_rfl) (by kernel_rfl) (fun _ _ _ h => h) (by rfl) (fun w hSw => ?_) (by assumption) ?_
  rotate_left
  · (try dsimp only at hSw); first | (go_simp; done) | (go_simp; with_reducible rfl)
  simp only [List.setIfInBounds_toArray, List.set_cons_zero, List.set_cons_succ]
  refine heldTake (v := ?_) 8 65 rfl rfl (by kernel_rfl) (by kernel_rfl) (by kernel_rfl) (fun _ _ _ h => h) (by rfl) (fun w hSw => ?_) (by assumption) ?_
  rotate_left
  · (try dsimp only at hSw); first | (go_simp; done) | (go_simp; with_reducible rfl)
  simp only [List.setIfInBounds_toArray, List.set_cons_zero, List.set_cons_succ]
  refine heldOne 9 rfl (by kernel_rfl) (by rfl) (fun K2 hK => ?_)
  go_simp
  refine (CF _).mono ?_
  rintro e wz ⟨rfl, hb⟩
  simp only []
  refine hK.out _ _ ?_ (fun hHeld => ?_)
  · first | exact keepP7 (by assumption) (by assumption) | exact keepP7 (Below.refl _ _).drew (by assumption)
  clear hK K2
  try simp only [List.setIfInBounds_toArray, List.set_cons_zero, List.set_cons_succ]
  refine heldTake (v := ?_) 10 67 rfl rfl (by kernel_rfl) (by kernel_rfl) (by kernel_rfl) (fun _ _ _ h => h) (by rfl) (fun w hSw => ?_) (by assumption) ?_
  rotate_left
  · (try dsimp only at hSw); first | (go_simp; done) | (go_simp; with_reducible rfl)
  simp only [List.setIfInBounds_toArray, List.set_cons_zero, List.set_cons_succ]
  refine heldTake (v := ?_) 11 68 rfl rfl (by kernel_rfl) (by kernel_rfl) (by kernel_rfl) (fun _ _ _ h => h) (by rfl) (fun w hSw => ?_) (by assumption) ?_
  rotate_left
  · (try dsimp only at hSw); first | (go_simp; done) | (go_simp; with_reducible rfl)
  simp only [List.setIfInBounds_toArray, List.set_cons_zero, List.set_cons_succ]
  refine heldTake (v := ?_) 12 69 rfl rfl (by kernel_rfl) (by kernel_rfl) (by kernel_rfl) (fun _ _ _ h => h) (by rfl) (fun w hSw => ?_) (by assumption) ?_
  rotate_left
  · (try dsimp only at hSw); first | (go_simp; done) | (go_simp; with_reducible rfl)
  simp only [List.setIfInBounds_toArray, List.set_cons_zero, List.set_cons_succ]
  refine heldTake (v := ?_) 13 70 rfl rfl (by kernel_rfl) (by kernel_rfl) (by kernel_rfl) (fun _ _ _ h => h) (by rfl) (fun w hSw => ?_) (by assumption) ?_
  rotate_left
  · (try dsimp only at hSw); first | (go_simp; done) | (go_simp; with_reducible rfl)
  simp only [List.setIfInBounds_toArray, List.set_cons_zero, List.set_cons_succ]
  refine heldTake (v := ?_) 14 71 rfl rfl (by kernel_rfl) (by kernel_rfl) (by kernel_rfl) (fun _ _ _ h => h) (by rfl) (fun w hSw => ?_) (by assumption) ?_
  rotate_left
  · (try dsimp only at hSw); first | (go_simp; done) | (go_simp; with_reducible rfl)
  simp only [List.setIfInBounds_toArray, List.set_cons_zero, List.set_cons_succ]
  refine heldSkip 15 72 rfl rfl (by kernel_rfl) (by kernel_rfl) (by kernel_rfl) (fun _ _ _ h => h) (by rfl) (by assumption) ?_
  simp only [List.setIfInBounds_toArray, List.set_cons_zero, List.set_cons_succ]
  refine heldSkip 16 73 rfl rfl (by kernel_rfl) (by kernel_rfl) (by kernel_rfl) (fun _ _ _ h => h) (by rfl) (by assumption) ?_
  simp only [List.setIfInBounds_toArray, List.set_cons_zero, List.set_cons_succ]
  refine heldSkip 17 74 rfl rfl (by kernel_rfl) (by kernel_rfl) (by kernel_rfl) (fun _ _ _ h => h) (by rfl) (by assumption) ?_
  simp only [List.setIfInBounds_toArray, List.set_cons_zero, List.set_cons_succ]
  refine heldSkip 18 75 rfl rfl (by kernel_rfl) (by kernel_rfl) (by kernel_rfl) (fun _ _ _ h => h) (by rfl) (by assumption) ?_
  simp only [List.setIfInBounds_toArray, List.set_cons_zero, List.set_cons_succ]
  refine heldSkip 19 76 rfl rfl (by kernel_rfl) (by kernel_rfl) (by kernel_rfl) (fun _ _ _ h => h) (by rfl) (by assumption) ?_
  simp only [List.setIfInBounds_toArray, List.set_cons_zero, List.set_cons_succ]
  refine heldSkip 20 77 rfl rfl (by kernel_rfl) (by kernel_rfl) (by kernel_rfl) (fun _ _ _ h => h) (by rfl) (by assumption) ?_
  simp only [List.setIfInBounds_toArray, List.set_cons_zero, List.set_cons_succ]
  refine heldSkip 21 78 rfl rfl (by kernel_rfl) (by kernel_rfl) (by kernel_rfl) (fun _ _ _ h => h) (by rfl) (by assumption) ?_
  simp only [List.setIfInBounds_toArray, List.set_cons_zero, List.set_cons_succ]
  refine heldSkip 22 79 rfl rfl (by kernel_rfl) (by kernel_rfl) (by kernel_rfl) (fun _ _ _ h => h) (by rfl) (by assumption) ?_
  simp only [List.setIfInBounds_toArray, List.set_cons_zero, List.set_cons_succ]
  refine heldSkip 23 80 rfl rfl (by kernel_rfl) (by kernel_rfl) (by kernel_rfl) (fun _ _ _ h => h) (by rfl) (by assumption) ?_
  simp only [List.setIfInBounds_toArray, List.set_cons_zero, List.set_cons_succ]
  refine heldSkip 24 81 rfl rfl (by kernel_rfl) (by kernel_rfl) (by kernel_rfl) (fun _ _ _ h => h) (by rfl) (by assumption) ?_
  simp only [List.setIfInBounds_toArray, List.set_cons_zero, List.set_cons_succ]
  refine heldSkip 25 82 rfl rfl (by kernel_rfl) (by kernel_rfl) (by kernel_rfl) (fun _ _ _ h => h) (by rfl) (by assumption) ?_
  simp only [List.setIfInBounds_toArray, List.set_cons_zero, List.set_cons_succ]
  refine heldTake (v := ?_) 26 83 rfl rfl (by kernel_rfl) (by kernel_rfl) (by kernel_rfl) (fun _ _ _ h => h) (by rfl) (fun w hSw => ?_) (by assumption) ?_
  rotate_left
  · (try dsimp only at hSw); first | (go_simp; done) | (go_simp; with_reducible rfl)
  simp only [List.setIfInBounds_toArray, List.set_cons_zero, List.set_cons_succ]
  refine heldTake (v := ?_) 27 84 rfl rfl (by kernel_rfl) (by kernel_rfl) (by kernel_rfl) (fun _ _ _ h => h) (by rfl) (fun w hSw => ?_) (by assumption) ?_
  rotate_left
  · (try dsimp only at hSw); first | (go_simp; done) | (go_simp; with_reducible rfl)
  simp only [List.setIfInBounds_toArray, List.set_cons_zero, List.set_cons_succ]
  refine wpAnyH_done (by kernel_rfl) ?_ _
  have HB9 : Hid (Below w.heap.size w _) := hHeld.2.2.2.2.2.2.2
  clear hHeld HS
  go_wp2
  go_ret
  exact ⟨by rw [HE.out]; rfl, HB9.out⟩

set_option maxRecDepth 100000 in
set_option maxHeartbeats 4000000 in
theorem rPred1_false (x : PPr) (a : Option Addr) (n cap : Nat) (ts : List Int) (w : World) (hn : ts.length = n) (h4 : n ≤ 65536) (hr : RdI .i64 w a ts) (hk : x.kind = 1) (hp : placeB x.col n = true) (hq : okV x.val = true) (hf : fitsV x.val (atI ts x.col) = false) :
    Calls Try.prog 12 #[.agg (cellsP x), .slice a n cap] w fun e w' => e = .returned (.int .i64 (chkP x ts)) ∧ Below w.heap.size w w' := by
  have HN : Hid (ts.length = n) := hn
  have HR : Hid (RdI .i64 w a ts) := hr
  clear hn hr
  have hh : hasB x n = true := by simp [hasB, hp, hk, askO]
  have HE : Hid (chkP x ts = if fitsV x.val (atI ts x.col) = true then 0 else 10) := chkP_val (by rw [hk]; rfl) (by rw [HN.out]; exact hh) (by rw [hk]; rfl) (by rw [hk]; rfl) hq
  rw [hf] at HE
  obtain ⟨i, hi, hin⟩ := has_col hh
  have hil : i < ts.length := by rw [HN.out]; exact hin
  obtain ⟨b, off, rfl, hc⟩ := HR.out (by omega)
  have y0 := hc i hil
  rw [hi, atI_nat ts i hil] at hf
  have i0 : (0 : Int) ≤ (i : Int) := by omega
  have i1 : (i : Int) < (n : Int) := by omega
  generalize ts[i] = ty at *
  clear hc hil HR hh
  obtain ⟨k, c, o, vk, vi, vs⟩ := x
  try simp only at hk hp hq hi hf
  simp only [cellsP]
  subst hi
  subst hk
  have CF := rFits_any vk vi vs ty
  rw [hf] at CF
  clear hf
  have ew := wrap_less n h4
  have ew2 : wrap64 ((n : Int) - 1) = (n : Int) - 1 := IntWalk.wrap64_in _ ⟨by omega, by omega⟩
  go_enter Try.func12, Try.ntmps12
  go_wp2_with fail
  refine (p14In_any _ _ _ _).mono ?_
  rintro e w4 ⟨rfl, hb⟩
  rw [show (decide ((1 : Int) ≤ 1) && decide ((1 : Int) ≤ 6)) = true from by decide]
  obtain ⟨c0, c1, c2, c3, c4, c5⟩ := box6 hb
  have HB : Hid (Below w.heap.size w w4) := chain (alloc_below _ _) hb
  clear hb
  go_wp2_with fail
  refine (p14Place _ n hp _).mono ?_
  rintro e w5 ⟨rfl, hb⟩
  have HS : w5.cell? ⟨w.heap.size, 0, none⟩ = some (.int .i64 1) ∧ w5.cell? ⟨w.heap.size, 1, none⟩ = some (.int .i64 i) ∧ w5.cell? ⟨w.heap.size, 2, none⟩ = some (.int .i64 o) ∧ w5.cell? ⟨w.heap.size, 3, none⟩ = some (.int .i64 vk) ∧ w5.cell? ⟨w.heap.size, 4, none⟩ = some (.int .i64 vi) ∧ w5.cell? ⟨w.heap.size, 5, none⟩ = some (.string vs) ∧ Hid (Below w.heap.size w w5) := keepP6 hb ⟨c0, c1, c2, c3, c4, c5, HB⟩
  clear c0 c1 c2 c3 c4 c5 HB hb
  obtain ⟨c0, c1, c2, c3, c4, c5, HB⟩ := HS
  go_wp2_with fail
  refine (rValue_of vk vi vs _ hq).mono ?_
  rintro e w6 ⟨rfl, hb⟩
  have HS : w6.cell? ⟨w.heap.size, 0, none⟩ = some (.int .i64 1) ∧ w6.cell? ⟨w.heap.size, 1, none⟩ = some (.int .i64 i) ∧ w6.cell? ⟨w.heap.size, 2, none⟩ = some (.int .i64 o) ∧ w6.cell? ⟨w.heap.size, 3, none⟩ = some (.int .i64 vk) ∧ w6.cell? ⟨w.heap.size, 4, none⟩ = some (.int .i64 vi) ∧ w6.cell? ⟨w.heap.size, 5, none⟩ = some (.string vs) ∧ Hid (Below w.heap.size w w6) := keepP6 hb ⟨c0, c1, c2, c3, c4, c5, HB⟩
  clear c0 c1 c2 c3 c4 c5 HB hb
  obtain ⟨c0, c1, c2, c3, c4, c5, HB⟩ := HS
  clear hq
  go_upto_region 5 with fail
  have HS : w6.cell? ⟨w.heap.size, 0, none⟩ = some (.int .i64 1) ∧ w6.cell? ⟨w.heap.size, 1, none⟩ = some (.int .i64 i) ∧ w6.cell? ⟨w.heap.size, 2, none⟩ = some (.int .i64 o) ∧ w6.cell? ⟨w.heap.size, 3, none⟩ = some (.int .i64 vk) ∧ w6.cell? ⟨w.heap.size, 4, none⟩ = some (.int .i64 vi) ∧ w6.cell? ⟨w.heap.size, 5, none⟩ = some (.string vs) ∧ w6.cell? ⟨b, off + i, none⟩ = some (.int .i64 ty) ∧ Hid (Below w.heap.size w w6) := ⟨c0, c1, c2, c3, c4, c5, cell_later HB.out y0, HB⟩
  have HS : w6.drew.cell? ⟨w.heap.size, 0, none⟩ = some (.int .i64 1) ∧ w6.drew.cell? ⟨w.heap.size, 1, none⟩ = some (.int .i64 i) ∧ w6.drew.cell? ⟨w.heap.size, 2, none⟩ = some (.int .i64 o) ∧ w6.drew.cell? ⟨w.heap.size, 3, none⟩ = some (.int .i64 vk) ∧ w6.drew.cell? ⟨w.heap.size, 4, none⟩ = some (.int .i64 vi) ∧ w6.drew.cell? ⟨w.heap.size, 5, none⟩ = some (.string vs) ∧ w6.drew.cell? ⟨b, off + i, none⟩ = some (.int .i64 ty) ∧ Hid (Below w.heap.size w w6.drew) := keepP7 (Below.refl _ _).drew HS
  clear c0 c1 c2 c3 c4 c5 y0 HB
  refine wp_region_held_drew (S := (fun w' => w'.cell? ⟨w.heap.size, 0, none⟩ = some (.int .i64 1) ∧ w'.cell? ⟨w.heap.size, 1, none⟩ = some (.int .i64 i) ∧ w'.cell? ⟨w.heap.size, 2, none⟩ = some (.int .i64 o) ∧ w'.cell? ⟨w.heap.size, 3, none⟩ = some (.int .i64 vk) ∧ w'.cell? ⟨w.heap.size, 4, none⟩ = some (.int .i64 vi) ∧ w'.cell? ⟨w.heap.size, 5, none⟩ = some (.string vs) ∧ w'.cell? ⟨b, off + i, none⟩ = some (.int .i64 ty) ∧ Hid (Below w.heap.size w w'))) (by kernel_rfl) HS (fun hHeld => ?_)
  refine heldTake (v := ?_) 0 57 rfl rfl (by kernel_rfl) (by kernel_rfl) (by kernel_rfl) (fun _ _ _ h => h) (by rfl) (fun w hSw => ?_) (by assumption) ?_
  rotate_left
  · (try dsimp only at hSw); first | (go_simp; done) | (go_simp; with_reducible rfl)
  simp only [List.setIfInBounds_toArray, List.set_cons_zero, List.set_cons_succ]
  refine heldTake (v := ?_) 1 58 rfl rfl (by kernel_rfl) (by kernel_rfl) (by kernel_rfl) (fun _ _ _ h => h) (by rfl) (fun w hSw => ?_) (by assumption) ?_
  rotate_left
  · (try dsimp only at hSw); first | (go_simp; done) | (go_simp; with_reducible rfl)
  simp only [List.setIfInBounds_toArray, List.set_cons_zero, List.set_cons_succ]
  refine heldTake (v := ?_) 2 59 rfl rfl (by kernel_rfl) (by kernel_rfl) (by kernel_rfl) (fun _ _ _ h => h) (by rfl) (fun w hSw => ?_) (by assumption) ?_
  rotate_left
  · (try dsimp only at hSw); first | (go_simp; done) | (go_simp; with_reducible rfl)
  simp only [List.setIfInBounds_toArray, List.set_cons_zero, List.set_cons_succ]
  refine heldTake (v := ?_) 3 60 rfl rfl (by kernel_rfl) (by kernel_rfl) (by kernel_rfl) (fun _ _ _ h => h) (by rfl) (fun w hSw => ?_) (by assumption) ?_
  rotate_left
  · (try dsimp only at hSw); first | (go_simp; done) | (go_simp; with_reducible rfl)
  simp only [List.setIfInBounds_toArray, List.set_cons_zero, List.set_cons_succ]
  refine heldTake (v := ?_) 4 61 rfl rfl (by kernel_rfl) (by kernel_rfl) (by kernel_rfl) (fun _ _ _ h => h) (by rfl) (fun w hSw => ?_) (by assumption) ?_
  rotate_left
  · (try dsimp only at hSw); first | (go_simp; done) | (go_simp; with_reducible rfl)
  simp only [List.setIfInBounds_toArray, List.set_cons_zero, List.set_cons_succ]
  refine heldTake (v := ?_) 5 62 rfl rfl (by kernel_rfl) (by kernel_rfl) (by kernel_rfl) (fun _ _ _ h => h) (by rfl) (fun w hSw => ?_) (by assumption) ?_
  rotate_left
  · (try dsimp only at hSw); first | (go_simp; done) | (go_simp; with_reducible rfl)
  simp only [List.setIfInBounds_toArray, List.set_cons_zero, List.set_cons_succ]
  refine heldTake (v := ?_) 6 63 rfl rfl (by kernel_rfl) (by kernel_rfl) (by kernel_rfl) (fun _ _ _ h => h) (by rfl) (fun w hSw => ?_) (by assumption) ?_
  rotate_left
  · (try dsimp only at hSw); first | (go_simp; done) | (go_simp; with_reducible rfl)
  simp only [List.setIfInBounds_toArray, List.set_cons_zero, List.set_cons_succ]
  refine heldTake (v := ?_) 7 64 rfl rfl (by kernel_rfl) (by kernel_rfl) (by kernel_rfl) (fun _ _ _ h => h) (by rfl) (fun w hSw => ?_) (by assumption) ?_
  rotate_left
  · (try dsimp only at hSw); first | (go_simp; done) | (go_simp; with_reducible rfl)
  simp only [List.setIfInBounds_toArray, List.set_cons_zero, List.set_cons_succ]
  refine heldTake (v := ?_) 8 65 rfl rfl (by kernel_rfl) (by kernel_rfl) (by kernel_rfl) (fun _ _ _ h => h) (by rfl) (fun w hSw => ?_) (by assumption) ?_
  rotate_left
  · (try dsimp only at hSw); first | (go_simp; done) | (go_simp; with_reducible rfl)
  simp only [List.setIfInBounds_toArray, List.set_cons_zero, List.set_cons_succ]
  refine heldOne 9 rfl (by kernel_rfl) (by rfl) (fun K2 hK => ?_)
  go_simp
  refine (CF _).mono ?_
  rintro e wz ⟨rfl, hb⟩
  simp only []
  refine hK.out _ _ ?_ (fun hHeld => ?_)
  · first | exact keepP7 (by assumption) (by assumption) | exact keepP7 (Below.refl _ _).drew (by assumption)
  clear hK K2
  try simp only [List.setIfInBounds_toArray, List.set_cons_zero, List.set_cons_succ]
  refine heldTake (v := ?_) 10 67 rfl rfl (by kernel_rfl) (by kernel_rfl) (by kernel_rfl) (fun _ _ _ h => h) (by rfl) (fun w hSw => ?_) (by assumption) ?_
  rotate_left
  · (try dsimp only at hSw); first | (go_simp; done) | (go_simp; with_reducible rfl)
  simp only [List.setIfInBounds_toArray, List.set_cons_zero, List.set_cons_succ]
  refine heldTake (v := ?_) 11 68 rfl rfl (by kernel_rfl) (by kernel_rfl) (by kernel_rfl) (fun _ _ _ h => h) (by rfl) (fun w hSw => ?_) (by assumption) ?_
  rotate_left
  · (try dsimp only at hSw); first | (go_simp; done) | (go_simp; with_reducible rfl)
  simp only [List.setIfInBounds_toArray, List.set_cons_zero, List.set_cons_succ]
  refine heldTake (v := ?_) 12 69 rfl rfl (by kernel_rfl) (by kernel_rfl) (by kernel_rfl) (fun _ _ _ h => h) (by rfl) (fun w hSw => ?_) (by assumption) ?_
  rotate_left
  · (try dsimp only at hSw); first | (go_simp; done) | (go_simp; with_reducible rfl)
  simp only [List.setIfInBounds_toArray, List.set_cons_zero, List.set_cons_succ]
  refine heldSkip 13 70 rfl rfl (by kernel_rfl) (by kernel_rfl) (by kernel_rfl) (fun _ _ _ h => h) (by rfl) (by assumption) ?_
  simp only [List.setIfInBounds_toArray, List.set_cons_zero, List.set_cons_succ]
  refine heldSkip 14 71 rfl rfl (by kernel_rfl) (by kernel_rfl) (by kernel_rfl) (fun _ _ _ h => h) (by rfl) (by assumption) ?_
  simp only [List.setIfInBounds_toArray, List.set_cons_zero, List.set_cons_succ]
  refine heldSkip 15 72 rfl rfl (by kernel_rfl) (by kernel_rfl) (by kernel_rfl) (fun _ _ _ h => h) (by rfl) (by assumption) ?_
  simp only [List.setIfInBounds_toArray, List.set_cons_zero, List.set_cons_succ]
  refine heldSkip 16 73 rfl rfl (by kernel_rfl) (by kernel_rfl) (by kernel_rfl) (fun _ _ _ h => h) (by rfl) (by assumption) ?_
  simp only [List.setIfInBounds_toArray, List.set_cons_zero, List.set_cons_succ]
  refine heldSkip 17 74 rfl rfl (by kernel_rfl) (by kernel_rfl) (by kernel_rfl) (fun _ _ _ h => h) (by rfl) (by assumption) ?_
  simp only [List.setIfInBounds_toArray, List.set_cons_zero, List.set_cons_succ]
  refine heldSkip 18 75 rfl rfl (by kernel_rfl) (by kernel_rfl) (by kernel_rfl) (fun _ _ _ h => h) (by rfl) (by assumption) ?_
  simp only [List.setIfInBounds_toArray, List.set_cons_zero, List.set_cons_succ]
  refine heldSkip 19 76 rfl rfl (by kernel_rfl) (by kernel_rfl) (by kernel_rfl) (fun _ _ _ h => h) (by rfl) (by assumption) ?_
  simp only [List.setIfInBounds_toArray, List.set_cons_zero, List.set_cons_succ]
  refine heldSkip 20 77 rfl rfl (by kernel_rfl) (by kernel_rfl) (by kernel_rfl) (fun _ _ _ h => h) (by rfl) (by assumption) ?_
  simp only [List.setIfInBounds_toArray, List.set_cons_zero, List.set_cons_succ]
  refine heldSkip 21 78 rfl rfl (by kernel_rfl) (by kernel_rfl) (by kernel_rfl) (fun _ _ _ h => h) (by rfl) (by assumption) ?_
  simp only [List.setIfInBounds_toArray, List.set_cons_zero, List.set_cons_succ]
  refine heldSkip 22 79 rfl rfl (by kernel_rfl) (by kernel_rfl) (by kernel_rfl) (fun _ _ _ h => h) (by rfl) (by assumption) ?_
  simp only [List.setIfInBounds_toArray, List.set_cons_zero, List.set_cons_succ]
  refine heldSkip 23 80 rfl rfl (by kernel_rfl) (by kernel_rfl) (by kernel_rfl) (fun _ _ _ h => h) (by rfl) (by assumption) ?_
  simp only [List.setIfInBounds_toArray, List.set_cons_zero, List.set_cons_succ]
  refine heldSkip 24 81 rfl rfl (by kernel_rfl) (by kernel_rfl) (by kernel_rfl) (fun _ _ _ h => h) (by rfl) (by assumption) ?_
  simp only [List.setIfInBounds_toArray, List.set_cons_zero, List.set_cons_succ]
  refine heldSkip 25 82 rfl rfl (by kernel_rfl) (by kernel_rfl) (by kernel_rfl) (fun _ _ _ h => h) (by rfl) (by assumption) ?_
  simp only [List.setIfInBounds_toArray, List.set_cons_zero, List.set_cons_succ]
  refine heldSkip 26 83 rfl rfl (by kernel_rfl) (by kernel_rfl) (by kernel_rfl) (fun _ _ _ h => h) (by rfl) (by assumption) ?_
  simp only [List.setIfInBounds_toArray, List.set_cons_zero, List.set_cons_succ]
  refine heldTake (v := ?_) 27 84 rfl rfl (by kernel_rfl) (by kernel_rfl) (by kernel_rfl) (fun _ _ _ h => h) (by rfl) (fun w hSw => ?_) (by assumption) ?_
  rotate_left
  · (try dsimp only at hSw); first | (go_simp; done) | (go_simp; with_reducible rfl)
  simp only [List.setIfInBounds_toArray, List.set_cons_zero, List.set_cons_succ]
  refine wpAnyH_done (by kernel_rfl) ?_ _
  have HB9 : Hid (Below w.heap.size w _) := hHeld.2.2.2.2.2.2.2
  clear hHeld HS
  go_wp2
  go_ret
  exact ⟨by rw [HE.out]; rfl, HB9.out⟩

set_option maxRecDepth 100000 in
set_option maxHeartbeats 4000000 in
theorem rPred2_col (x : PPr) (a : Option Addr) (n cap : Nat) (ts : List Int) (w : World) (hn : ts.length = n) (h4 : n ≤ 65536) (hr : RdI .i64 w a ts) (hk : x.kind = 2) (hp : placeB x.col n = false) :
    Calls Try.prog 12 #[.agg (cellsP x), .slice a n cap] w fun e w' => e = .returned (.int .i64 (chkP x ts)) ∧ Below w.heap.size w w' := by
  have HN : Hid (ts.length = n) := hn
  have HR : Hid (RdI .i64 w a ts) := hr
  clear hn hr
  have HE : Hid (chkP x ts = 1) := chkP_has (by rw [HN.out]; simp [hasB, hp])
  obtain ⟨k, c, o, vk, vi, vs⟩ := x
  try simp only at hk hp
  simp only [cellsP]
  subst hk
  have ew := wrap_less n h4
  have ew2 : wrap64 ((n : Int) - 1) = (n : Int) - 1 := IntWalk.wrap64_in _ ⟨by omega, by omega⟩
  go_enter Try.func12, Try.ntmps12
  go_wp2_with fail
  refine (p14In_any _ _ _ _).mono ?_
  rintro e w4 ⟨rfl, hb⟩
  rw [show (decide ((1 : Int) ≤ 2) && decide ((2 : Int) ≤ 6)) = true from by decide]
  obtain ⟨c0, c1, c2, c3, c4, c5⟩ := box6 hb
  have HB : Hid (Below w.heap.size w w4) := chain (alloc_below _ _) hb
  clear hb
  go_wp2_with fail
  refine (p14Place _ n hp _).mono ?_
  rintro e w5 ⟨rfl, hb⟩
  have HS : w5.cell? ⟨w.heap.size, 0, none⟩ = some (.int .i64 2) ∧ w5.cell? ⟨w.heap.size, 1, none⟩ = some (.int .i64 c) ∧ w5.cell? ⟨w.heap.size, 2, none⟩ = some (.int .i64 o) ∧ w5.cell? ⟨w.heap.size, 3, none⟩ = some (.int .i64 vk) ∧ w5.cell? ⟨w.heap.size, 4, none⟩ = some (.int .i64 vi) ∧ w5.cell? ⟨w.heap.size, 5, none⟩ = some (.string vs) ∧ Hid (Below w.heap.size w w5) := keepP6 hb ⟨c0, c1, c2, c3, c4, c5, HB⟩
  clear c0 c1 c2 c3 c4 c5 HB hb
  obtain ⟨c0, c1, c2, c3, c4, c5, HB⟩ := HS
  go_wp2
  go_ret
  exact ⟨by rw [HE.out]; rfl, HB.out⟩

set_option maxRecDepth 100000 in
set_option maxHeartbeats 4000000 in
theorem rPred2_ok (x : PPr) (a : Option Addr) (n cap : Nat) (ts : List Int) (w : World) (hn : ts.length = n) (h4 : n ≤ 65536) (hr : RdI .i64 w a ts) (hk : x.kind = 2) (hp : placeB x.col n = true) (hq : okV x.val = false) :
    Calls Try.prog 12 #[.agg (cellsP x), .slice a n cap] w fun e w' => e = .returned (.int .i64 (chkP x ts)) ∧ Below w.heap.size w w' := by
  have HN : Hid (ts.length = n) := hn
  have HR : Hid (RdI .i64 w a ts) := hr
  clear hn hr
  have HE : Hid (chkP x ts = 1) := chkP_ok (by rw [hk]; rfl) hq
  obtain ⟨k, c, o, vk, vi, vs⟩ := x
  try simp only at hk hp hq
  simp only [cellsP]
  subst hk
  have ew := wrap_less n h4
  have ew2 : wrap64 ((n : Int) - 1) = (n : Int) - 1 := IntWalk.wrap64_in _ ⟨by omega, by omega⟩
  go_enter Try.func12, Try.ntmps12
  go_wp2_with fail
  refine (p14In_any _ _ _ _).mono ?_
  rintro e w4 ⟨rfl, hb⟩
  rw [show (decide ((1 : Int) ≤ 2) && decide ((2 : Int) ≤ 6)) = true from by decide]
  obtain ⟨c0, c1, c2, c3, c4, c5⟩ := box6 hb
  have HB : Hid (Below w.heap.size w w4) := chain (alloc_below _ _) hb
  clear hb
  go_wp2_with fail
  refine (p14Place _ n hp _).mono ?_
  rintro e w5 ⟨rfl, hb⟩
  have HS : w5.cell? ⟨w.heap.size, 0, none⟩ = some (.int .i64 2) ∧ w5.cell? ⟨w.heap.size, 1, none⟩ = some (.int .i64 c) ∧ w5.cell? ⟨w.heap.size, 2, none⟩ = some (.int .i64 o) ∧ w5.cell? ⟨w.heap.size, 3, none⟩ = some (.int .i64 vk) ∧ w5.cell? ⟨w.heap.size, 4, none⟩ = some (.int .i64 vi) ∧ w5.cell? ⟨w.heap.size, 5, none⟩ = some (.string vs) ∧ Hid (Below w.heap.size w w5) := keepP6 hb ⟨c0, c1, c2, c3, c4, c5, HB⟩
  clear c0 c1 c2 c3 c4 c5 HB hb
  obtain ⟨c0, c1, c2, c3, c4, c5, HB⟩ := HS
  go_wp2_with fail
  refine (rValue_of vk vi vs _ hq).mono ?_
  rintro e w6 ⟨rfl, hb⟩
  have HS : w6.cell? ⟨w.heap.size, 0, none⟩ = some (.int .i64 2) ∧ w6.cell? ⟨w.heap.size, 1, none⟩ = some (.int .i64 c) ∧ w6.cell? ⟨w.heap.size, 2, none⟩ = some (.int .i64 o) ∧ w6.cell? ⟨w.heap.size, 3, none⟩ = some (.int .i64 vk) ∧ w6.cell? ⟨w.heap.size, 4, none⟩ = some (.int .i64 vi) ∧ w6.cell? ⟨w.heap.size, 5, none⟩ = some (.string vs) ∧ Hid (Below w.heap.size w w6) := keepP6 hb ⟨c0, c1, c2, c3, c4, c5, HB⟩
  clear c0 c1 c2 c3 c4 c5 HB hb
  obtain ⟨c0, c1, c2, c3, c4, c5, HB⟩ := HS
  go_wp2
  go_ret
  exact ⟨by rw [HE.out]; rfl, HB.out⟩

set_option maxRecDepth 100000 in
set_option maxHeartbeats 4000000 in
theorem rPred2_true (x : PPr) (a : Option Addr) (n cap : Nat) (ts : List Int) (w : World) (hn : ts.length = n) (h4 : n ≤ 65536) (hr : RdI .i64 w a ts) (hk : x.kind = 2) (hp : placeB x.col n = true) (hq : okV x.val = true) (hf : fitsV x.val (atI ts x.col) = true) :
    Calls Try.prog 12 #[.agg (cellsP x), .slice a n cap] w fun e w' => e = .returned (.int .i64 (chkP x ts)) ∧ Below w.heap.size w w' := by
  have HN : Hid (ts.length = n) := hn
  have HR : Hid (RdI .i64 w a ts) := hr
  clear hn hr
  have hh : hasB x n = true := by simp [hasB, hp, hk, askO]
  have HE : Hid (chkP x ts = if fitsV x.val (atI ts x.col) = true then 0 else 10) := chkP_val (by rw [hk]; rfl) (by rw [HN.out]; exact hh) (by rw [hk]; rfl) (by rw [hk]; rfl) hq
  rw [hf] at HE
  obtain ⟨i, hi, hin⟩ := has_col hh
  have hil : i < ts.length := by rw [HN.out]; exact hin
  obtain ⟨b, off, rfl, hc⟩ := HR.out (by omega)
  have y0 := hc i hil
  rw [hi, atI_nat ts i hil] at hf
  have i0 : (0 : Int) ≤ (i : Int) := by omega
  have i1 : (i : Int) < (n : Int) := by omega
  generalize ts[i] = ty at *
  clear hc hil HR hh
  obtain ⟨k, c, o, vk, vi, vs⟩ := x
  try simp only at hk hp hq hi hf
  simp only [cellsP]
  subst hi
  subst hk
  have CF := rFits_any vk vi vs ty
  rw [hf] at CF
  clear hf
  have ew := wrap_less n h4
  have ew2 : wrap64 ((n : Int) - 1) = (n : Int) - 1 := IntWalk.wrap64_in _ ⟨by omega, by omega⟩
  go_enter Try.func12, Try.ntmps12
  go_wp2_with fail
  refine (p14In_any _ _ _ _).mono ?_
  rintro e w4 ⟨rfl, hb⟩
  rw [show (decide ((1 : Int) ≤ 2) && decide ((2 : Int) ≤ 6)) = true from by decide]
  obtain ⟨c0, c1, c2, c3, c4, c5⟩ := box6 hb
  have HB : Hid (Below w.heap.size w w4) := chain (alloc_below _ _) hb
  clear hb
  go_wp2_with fail
  refine (p14Place _ n hp _).mono ?_
  rintro e w5 ⟨rfl, hb⟩
  have HS : w5.cell? ⟨w.heap.size, 0, none⟩ = some (.int .i64 2) ∧ w5.cell? ⟨w.heap.size, 1, none⟩ = some (.int .i64 i) ∧ w5.cell? ⟨w.heap.size, 2, none⟩ = some (.int .i64 o) ∧ w5.cell? ⟨w.heap.size, 3, none⟩ = some (.int .i64 vk) ∧ w5.cell? ⟨w.heap.size, 4, none⟩ = some (.int .i64 vi) ∧ w5.cell? ⟨w.heap.size, 5, none⟩ = some (.string vs) ∧ Hid (Below w.heap.size w w5) := keepP6 hb ⟨c0, c1, c2, c3, c4, c5, HB⟩
  clear c0 c1 c2 c3 c4 c5 HB hb
  obtain ⟨c0, c1, c2, c3, c4, c5, HB⟩ := HS
  go_wp2_with fail
  refine (rValue_of vk vi vs _ hq).mono ?_
  rintro e w6 ⟨rfl, hb⟩
  have HS : w6.cell? ⟨w.heap.size, 0, none⟩ = some (.int .i64 2) ∧ w6.cell? ⟨w.heap.size, 1, none⟩ = some (.int .i64 i) ∧ w6.cell? ⟨w.heap.size, 2, none⟩ = some (.int .i64 o) ∧ w6.cell? ⟨w.heap.size, 3, none⟩ = some (.int .i64 vk) ∧ w6.cell? ⟨w.heap.size, 4, none⟩ = some (.int .i64 vi) ∧ w6.cell? ⟨w.heap.size, 5, none⟩ = some (.string vs) ∧ Hid (Below w.heap.size w w6) := keepP6 hb ⟨c0, c1, c2, c3, c4, c5, HB⟩
  clear c0 c1 c2 c3 c4 c5 HB hb
  obtain ⟨c0, c1, c2, c3, c4, c5, HB⟩ := HS
  clear hq
  go_upto_region 5 with fail
  have HS : w6.cell? ⟨w.heap.size, 0, none⟩ = some (.int .i64 2) ∧ w6.cell? ⟨w.heap.size, 1, none⟩ = some (.int .i64 i) ∧ w6.cell? ⟨w.heap.size, 2, none⟩ = some (.int .i64 o) ∧ w6.cell? ⟨w.heap.size, 3, none⟩ = some (.int .i64 vk) ∧ w6.cell? ⟨w.heap.size, 4, none⟩ = some (.int .i64 vi) ∧ w6.cell? ⟨w.heap.size, 5, none⟩ = some (.string vs) ∧ w6.cell? ⟨b, off + i, none⟩ = some (.int .i64 ty) ∧ Hid (Below w.heap.size w w6) := ⟨c0, c1, c2, c3, c4, c5, cell_later HB.out y0, HB⟩
  have HS : w6.drew.cell? ⟨w.heap.size, 0, none⟩ = some (.int .i64 2) ∧ w6.drew.cell? ⟨w.heap.size, 1, none⟩ = some (.int .i64 i) ∧ w6.drew.cell? ⟨w.heap.size, 2, none⟩ = some (.int .i64 o) ∧ w6.drew.cell? ⟨w.heap.size, 3, none⟩ = some (.int .i64 vk) ∧ w6.drew.cell? ⟨w.heap.size, 4, none⟩ = some (.int .i64 vi) ∧ w6.drew.cell? ⟨w.heap.size, 5, none⟩ = some (.string vs) ∧ w6.drew.cell? ⟨b, off + i, none⟩ = some (.int .i64 ty) ∧ Hid (Below w.heap.size w w6.drew) := keepP7 (Below.refl _ _).drew HS
  clear c0 c1 c2 c3 c4 c5 y0 HB
  refine wp_region_held_drew (S := (fun w' => w'.cell? ⟨w.heap.size, 0, none⟩ = some (.int .i64 2) ∧ w'.cell? ⟨w.heap.size, 1, none⟩ = some (.int .i64 i) ∧ w'.cell? ⟨w.heap.size, 2, none⟩ = some (.int .i64 o) ∧ w'.cell? ⟨w.heap.size, 3, none⟩ = some (.int .i64 vk) ∧ w'.cell? ⟨w.heap.size, 4, none⟩ = some (.int .i64 vi) ∧ w'.cell? ⟨w.heap.size, 5, none⟩ = some (.string vs) ∧ w'.cell? ⟨b, off + i, none⟩ = some (.int .i64 ty) ∧ Hid (Below w.heap.size w w'))) (by kernel_rfl) HS (fun hHeld => ?_)
  refine heldTake (v := ?_) 0 57 rfl rfl (by kernel_rfl) (by kernel_rfl) (by kernel_rfl) (fun _ _ _ h => h) (by rfl) (fun w hSw => ?_) (by assumption) ?_
  rotate_left
  · (try dsimp only at hSw); first | (go_simp; done) | (go_simp; with_reducible rfl)
  simp only [List.setIfInBounds_toArray, List.set_cons_zero, List.set_cons_succ]
  refine heldTake (v := ?_) 1 58 rfl rfl (by kernel_rfl) (by kernel_rfl) (by kernel_rfl) (fun _ _ _ h => h) (by rfl) (fun w hSw => ?_) (by assumption) ?_
  rotate_left
  · (try dsimp only at hSw); first | (go_simp; done) | (go_simp; with_reducible rfl)
  simp only [List.setIfInBounds_toArray, List.set_cons_zero, List.set_cons_succ]
  refine heldTake (v := ?_) 2 59 rfl rfl (by kernel_rfl) (by kernel_rfl) (by kernel_rfl) (fun _ _ _ h => h) (by rfl) (fun w hSw => ?_) (by assumption) ?_
  rotate_left
  · (try dsimp only at hSw); first | (go_simp; done) | (go_simp; with_reducible rfl)
  simp only [List.setIfInBounds_toArray, List.set_cons_zero, List.set_cons_succ]
  refine heldTake (v := ?_) 3 60 rfl rfl (by kernel_rfl) (by kernel_rfl) (by kernel_rfl) (fun _ _ _ h => h) (by rfl) (fun w hSw => ?_) (by assumption) ?_
  rotate_left
  · (try dsimp only at hSw); first | (go_simp; done) | (go_simp; with_reducible rfl)
  simp only [List.setIfInBounds_toArray, List.set_cons_zero, List.set_cons_succ]
  refine heldTake (v := ?_) 4 61 rfl rfl (by kernel_rfl) (by kernel_rfl) (by kernel_rfl) (fun _ _ _ h => h) (by rfl) (fun w hSw => ?_) (by assumption) ?_
  rotate_left
  · (try dsimp only at hSw); first | (go_simp; done) | (go_simp; with_reducible rfl)
  simp only [List.setIfInBounds_toArray, List.set_cons_zero, List.set_cons_succ]
  refine heldTake (v := ?_) 5 62 rfl rfl (by kernel_rfl) (by kernel_rfl) (by kernel_rfl) (fun _ _ _ h => h) (by rfl) (fun w hSw => ?_) (by assumption) ?_
  rotate_left
  · (try dsimp only at hSw); first | (go_simp; done) | (go_simp; with_reducible rfl)
  simp only [List.setIfInBounds_toArray, List.set_cons_zero, List.set_cons_succ]
  refine heldTake (v := ?_) 6 63 rfl rfl (by kernel_rfl) (by kernel_rfl) (by kernel_rfl) (fun _ _ _ h => h) (by rfl) (fun w hSw => ?_) (by assumption) ?_
  rotate_left
  · (try dsimp only at hSw); first | (go_simp; done) | (go_simp; with_reducible rfl)
  simp only [List.setIfInBounds_toArray, List.set_cons_zero, List.set_cons_succ]
  refine heldTake (v := ?_) 7 64 rfl rfl (by kernel_rfl) (by kernel_rfl) (by kernel_rfl) (fun _ _ _ h => h) (by rfl) (fun w hSw => ?_) (by assumption) ?_
  rotate_left
  · (try dsimp only at hSw); first | (go_simp; done) | (go_simp; with_reducible rfl)
  simp only [List.setIfInBounds_toArray, List.set_cons_zero, List.set_cons_succ]
  refine heldTake (v := ?_) 8 65 rfl rfl (by kernel_rfl) (by kernel_rfl) (by kernel_rfl) (fun _ _ _ h => h) (by rfl) (fun w hSw => ?_) (by assumption) ?_
  rotate_left
  · (try dsimp only at hSw); first | (go_simp; done) | (go_simp; with_reducible rfl)
  simp only [List.setIfInBounds_toArray, List.set_cons_zero, List.set_cons_succ]
  refine heldOne 9 rfl (by kernel_rfl) (by rfl) (fun K2 hK => ?_)
  go_simp
  refine (CF _).mono ?_
  rintro e wz ⟨rfl, hb⟩
  simp only []
  refine hK.out _ _ ?_ (fun hHeld => ?_)
  · first | exact keepP7 (by assumption) (by assumption) | exact keepP7 (Below.refl _ _).drew (by assumption)
  clear hK K2
  try simp only [List.setIfInBounds_toArray, List.set_cons_zero, List.set_cons_succ]
  refine heldTake (v := ?_) 10 67 rfl rfl (by kernel_rfl) (by kernel_rfl) (by kernel_rfl) (fun _ _ _ h => h) (by rfl) (fun w hSw => ?_) (by assumption) ?_
  rotate_left
  · (try dsimp only at hSw); first | (go_simp; done) | (go_simp; with_reducible rfl)
  simp only [List.setIfInBounds_toArray, List.set_cons_zero, List.set_cons_succ]
  refine heldTake (v := ?_) 11 68 rfl rfl (by kernel_rfl) (by kernel_rfl) (by kernel_rfl) (fun _ _ _ h => h) (by rfl) (fun w hSw => ?_) (by assumption) ?_
  rotate_left
  · (try dsimp only at hSw); first | (go_simp; done) | (go_simp; with_reducible rfl)
  simp only [List.setIfInBounds_toArray, List.set_cons_zero, List.set_cons_succ]
  refine heldTake (v := ?_) 12 69 rfl rfl (by kernel_rfl) (by kernel_rfl) (by kernel_rfl) (fun _ _ _ h => h) (by rfl) (fun w hSw => ?_) (by assumption) ?_
  rotate_left
  · (try dsimp only at hSw); first | (go_simp; done) | (go_simp; with_reducible rfl)
  simp only [List.setIfInBounds_toArray, List.set_cons_zero, List.set_cons_succ]
  refine heldTake (v := ?_) 13 70 rfl rfl (by kernel_rfl) (by kernel_rfl) (by kernel_rfl) (fun _ _ _ h => h) (by rfl) (fun w hSw => ?_) (by assumption) ?_
  rotate_left
  · (try dsimp only at hSw); first | (go_simp; done) | (go_simp; with_reducible rfl)
  simp only [List.setIfInBounds_toArray, List.set_cons_zero, List.set_cons_succ]
  refine heldTake (v := ?_) 14 71 rfl rfl (by kernel_rfl) (by kernel_rfl) (by kernel_rfl) (fun _ _ _ h => h) (by rfl) (fun w hSw => ?_) (by assumption) ?_
  rotate_left
  · (try dsimp only at hSw); first | (go_simp; done) | (go_simp; with_reducible rfl)
  simp only [List.setIfInBounds_toArray, List.set_cons_zero, List.set_cons_succ]
  refine heldSkip 15 72 rfl rfl (by kernel_rfl) (by kernel_rfl) (by kernel_rfl) (fun _ _ _ h => h) (by rfl) (by assumption) ?_
  simp only [List.setIfInBounds_toArray, List.set_cons_zero, List.set_cons_succ]
  refine heldSkip 16 73 rfl rfl (by kernel_rfl) (by kernel_rfl) (by kernel_rfl) (fun _ _ _ h => h) (by rfl) (by assumption) ?_
  simp only [List.setIfInBounds_toArray, List.set_cons_zero, List.set_cons_succ]
  refine heldSkip 17 74 rfl rfl (by kernel_rfl) (by kernel_rfl) (by kernel_rfl) (fun _ _ _ h => h) (by rfl) (by assumption) ?_
  simp only [List.setIfInBounds_toArray, List.set_cons_zero, List.set_cons_succ]
  refine heldSkip 18 75 rfl rfl (by kernel_rfl) (by kernel_rfl) (by kernel_rfl) (fun _ _ _ h => h) (by rfl) (by assumption) ?_
  simp only [List.setIfInBounds_toArray, List.set_cons_zero, List.set_cons_succ]
  refine heldSkip 19 76 rfl rfl (by kernel_rfl) (by kernel_rfl) (by kernel_rfl) (fun _ _ _ h => h) (by rfl) (by assumption) ?_
  simp only [List.setIfInBounds_toArray, List.set_cons_zero, List.set_cons_succ]
  refine heldSkip 20 77 rfl rfl (by kernel_rfl) (by kernel_rfl) (by kernel_rfl) (fun _ _ _ h => h) (by rfl) (by assumption) ?_
  simp only [List.setIfInBounds_toArray, List.set_cons_zero, List.set_cons_succ]
  refine heldSkip 21 78 rfl rfl (by kernel_rfl) (by kernel_rfl) (by kernel_rfl) (fun _ _ _ h => h) (by rfl) (by assumption) ?_
  simp only [List.setIfInBounds_toArray, List.set_cons_zero, List.set_cons_succ]
  refine heldSkip 22 79 rfl rfl (by kernel_rfl) (by kernel_rfl) (by kernel_rfl) (fun _ _ _ h => h) (by rfl) (by assumption) ?_
  simp only [List.setIfInBounds_toArray, List.set_cons_zero, List.set_cons_succ]
  refine heldSkip 23 80 rfl rfl (by kernel_rfl) (by kernel_rfl) (by kernel_rfl) (fun _ _ _ h => h) (by rfl) (by assumption) ?_
  simp only [List.setIfInBounds_toArray, List.set_cons_zero, List.set_cons_succ]
  refine heldSkip 24 81 rfl rfl (by kernel_rfl) (by kernel_rfl) (by kernel_rfl) (fun _ _ _ h => h) (by rfl) (by assumption) ?_
  simp only [List.setIfInBounds_toArray, List.set_cons_zero, List.set_cons_succ]
  refine heldSkip 25 82 rfl rfl (by kernel_rfl) (by kernel_rfl) (by kernel_rfl) (fun _ _ _ h => h) (by rfl) (by assumption) ?_
  simp only [List.setIfInBounds_toArray, List.set_cons_zero, List.set_cons_succ]
  refine heldTake (v := ?_) 26 83 rfl rfl (by kernel_rfl) (by kernel_rfl) (by kernel_rfl) (fun _ _ _ h => h) (by rfl) (fun w hSw => ?_) (by assumption) ?_
  rotate_left
  · (try dsimp only at hSw); first | (go_simp; done) | (go_simp; with_reducible rfl)
  simp only [List.setIfInBounds_toArray, List.set_cons_zero, List.set_cons_succ]
  refine heldTake (v := ?_) 27 84 rfl rfl (by kernel_rfl) (by kernel_rfl) (by kernel_rfl) (fun _ _ _ h => h) (by rfl) (fun w hSw => ?_) (by assumption) ?_
  rotate_left
  · (try dsimp only at hSw); first | (go_simp; done) | (go_simp; with_reducible rfl)
  simp only [List.setIfInBounds_toArray, List.set_cons_zero, List.set_cons_succ]
  refine wpAnyH_done (by kernel_rfl) ?_ _
  have HB9 : Hid (Below w.heap.size w _) := hHeld.2.2.2.2.2.2.2
  clear hHeld HS
  go_wp2
  go_ret
  exact ⟨by rw [HE.out]; rfl, HB9.out⟩

set_option maxRecDepth 100000 in
set_option maxHeartbeats 4000000 in
theorem rPred2_false (x : PPr) (a : Option Addr) (n cap : Nat) (ts : List Int) (w : World) (hn : ts.length = n) (h4 : n ≤ 65536) (hr : RdI .i64 w a ts) (hk : x.kind = 2) (hp : placeB x.col n = true) (hq : okV x.val = true) (hf : fitsV x.val (atI ts x.col) = false) :
    Calls Try.prog 12 #[.agg (cellsP x), .slice a n cap] w fun e w' => e = .returned (.int .i64 (chkP x ts)) ∧ Below w.heap.size w w' := by
  have HN : Hid (ts.length = n) := hn
  have HR : Hid (RdI .i64 w a ts) := hr
  clear hn hr
  have hh : hasB x n = true := by simp [hasB, hp, hk, askO]
  have HE : Hid (chkP x ts = if fitsV x.val (atI ts x.col) = true then 0 else 10) := chkP_val (by rw [hk]; rfl) (by rw [HN.out]; exact hh) (by rw [hk]; rfl) (by rw [hk]; rfl) hq
  rw [hf] at HE
  obtain ⟨i, hi, hin⟩ := has_col hh
  have hil : i < ts.length := by rw [HN.out]; exact hin
  obtain ⟨b, off, rfl, hc⟩ := HR.out (by omega)
  have y0 := hc i hil
  rw [hi, atI_nat ts i hil] at hf
  have i0 : (0 : Int) ≤ (i : Int) := by omega
  have i1 : (i : Int) < (n : Int) := by omega
  generalize ts[i] = ty at *
  clear hc hil HR hh
  obtain ⟨k, c, o, vk, vi, vs⟩ := x
  try simp only at hk hp hq hi hf
  simp only [cellsP]
  subst hi
  subst hk
  have CF := rFits_any vk vi vs ty
  rw [hf] at CF
  clear hf
  have ew := wrap_less n h4
  have ew2 : wrap64 ((n : Int) - 1) = (n : Int) - 1 := IntWalk.wrap64_in _ ⟨by omega, by omega⟩
  go_enter Try.func12, Try.ntmps12
  go_wp2_with fail
  refine (p14In_any _ _ _ _).mono ?_
  rintro e w4 ⟨rfl, hb⟩
  rw [show (decide ((1 : Int) ≤ 2) && decide ((2 : Int) ≤ 6)) = true from by decide]
  obtain ⟨c0, c1, c2, c3, c4, c5⟩ := box6 hb
  have HB : Hid (Below w.heap.size w w4) := chain (alloc_below _ _) hb
  clear hb
  go_wp2_with fail
  refine (p14Place _ n hp _).mono ?_
  rintro e w5 ⟨rfl, hb⟩
  have HS : w5.cell? ⟨w.heap.size, 0, none⟩ = some (.int .i64 2) ∧ w5.cell? ⟨w.heap.size, 1, none⟩ = some (.int .i64 i) ∧ w5.cell? ⟨w.heap.size, 2, none⟩ = some (.int .i64 o) ∧ w5.cell? ⟨w.heap.size, 3, none⟩ = some (.int .i64 vk) ∧ w5.cell? ⟨w.heap.size, 4, none⟩ = some (.int .i64 vi) ∧ w5.cell? ⟨w.heap.size, 5, none⟩ = some (.string vs) ∧ Hid (Below w.heap.size w w5) := keepP6 hb ⟨c0, c1, c2, c3, c4, c5, HB⟩
  clear c0 c1 c2 c3 c4 c5 HB hb
  obtain ⟨c0, c1, c2, c3, c4, c5, HB⟩ := HS
  go_wp2_with fail
  refine (rValue_of vk vi vs _ hq).mono ?_
  rintro e w6 ⟨rfl, hb⟩
  have HS : w6.cell? ⟨w.heap.size, 0, none⟩ = some (.int .i64 2) ∧ w6.cell? ⟨w.heap.size, 1, none⟩ = some (.int .i64 i) ∧ w6.cell? ⟨w.heap.size, 2, none⟩ = some (.int .i64 o) ∧ w6.cell? ⟨w.heap.size, 3, none⟩ = some (.int .i64 vk) ∧ w6.cell? ⟨w.heap.size, 4, none⟩ = some (.int .i64 vi) ∧ w6.cell? ⟨w.heap.size, 5, none⟩ = some (.string vs) ∧ Hid (Below w.heap.size w w6) := keepP6 hb ⟨c0, c1, c2, c3, c4, c5, HB⟩
  clear c0 c1 c2 c3 c4 c5 HB hb
  obtain ⟨c0, c1, c2, c3, c4, c5, HB⟩ := HS
  clear hq
  go_upto_region 5 with fail
  have HS : w6.cell? ⟨w.heap.size, 0, none⟩ = some (.int .i64 2) ∧ w6.cell? ⟨w.heap.size, 1, none⟩ = some (.int .i64 i) ∧ w6.cell? ⟨w.heap.size, 2, none⟩ = some (.int .i64 o) ∧ w6.cell? ⟨w.heap.size, 3, none⟩ = some (.int .i64 vk) ∧ w6.cell? ⟨w.heap.size, 4, none⟩ = some (.int .i64 vi) ∧ w6.cell? ⟨w.heap.size, 5, none⟩ = some (.string vs) ∧ w6.cell? ⟨b, off + i, none⟩ = some (.int .i64 ty) ∧ Hid (Below w.heap.size w w6) := ⟨c0, c1, c2, c3, c4, c5, cell_later HB.out y0, HB⟩
  have HS : w6.drew.cell? ⟨w.heap.size, 0, none⟩ = some (.int .i64 2) ∧ w6.drew.cell? ⟨w.heap.size, 1, none⟩ = some (.int .i64 i) ∧ w6.drew.cell? ⟨w.heap.size, 2, none⟩ = some (.int .i64 o) ∧ w6.drew.cell? ⟨w.heap.size, 3, none⟩ = some (.int .i64 vk) ∧ w6.drew.cell? ⟨w.heap.size, 4, none⟩ = some (.int .i64 vi) ∧ w6.drew.cell? ⟨w.heap.size, 5, none⟩ = some (.string vs) ∧ w6.drew.cell? ⟨b, off + i, none⟩ = some (.int .i64 ty) ∧ Hid (Below w.heap.size w w6.drew) := keepP7 (Below.refl _ _).drew HS
  clear c0 c1 c2 c3 c4 c5 y0 HB
  refine wp_region_held_drew (S := (fun w' => w'.cell? ⟨w.heap.size, 0, none⟩ = some (.int .i64 2) ∧ w'.cell? ⟨w.heap.size, 1, none⟩ = some (.int .i64 i) ∧ w'.cell? ⟨w.heap.size, 2, none⟩ = some (.int .i64 o) ∧ w'.cell? ⟨w.heap.size, 3, none⟩ = some (.int .i64 vk) ∧ w'.cell? ⟨w.heap.size, 4, none⟩ = some (.int .i64 vi) ∧ w'.cell? ⟨w.heap.size, 5, none⟩ = some (.string vs) ∧ w'.cell? ⟨b, off + i, none⟩ = some (.int .i64 ty) ∧ Hid (Below w.heap.size w w'))) (by kernel_rfl) HS (fun hHeld => ?_)
  refine heldTake (v := ?_) 0 57 rfl rfl (by kernel_rfl) (by kernel_rfl) (by kernel_rfl) (fun _ _ _ h => h) (by rfl) (fun w hSw => ?_) (by assumption) ?_
  rotate_left
  · (try dsimp only at hSw); first | (go_simp; done) | (go_simp; with_reducible rfl)
  simp only [List.setIfInBounds_toArray, List.set_cons_zero, List.set_cons_succ]
  refine heldTake (v := ?_) 1 58 rfl rfl (by kernel_rfl) (by kernel_rfl) (by kernel_rfl) (fun _ _ _ h => h) (by rfl) (fun w hSw => ?_) (by assumption) ?_
  rotate_left
  · (try dsimp only at hSw); first | (go_simp; done) | (go_simp; with_reducible rfl)
  simp only [List.setIfInBounds_toArray, List.set_cons_zero, List.set_cons_succ]
  refine heldTake (v := ?_) 2 59 rfl rfl (by kernel_rfl) (by kernel_rfl) (by kernel_rfl) (fun _ _ _ h => h) (by rfl) (fun w hSw => ?_) (by assumption) ?_
  rotate_left
  · (try dsimp only at hSw); first | (go_simp; done) | (go_simp; with_reducible rfl)
  simp only [List.setIfInBounds_toArray, List.set_cons_zero, List.set_cons_succ]
  refine heldTake (v := ?_) 3 60 rfl rfl (by kernel_rfl) (by kernel_rfl) (by kernel_rfl) (fun _ _ _ h => h) (by rfl) (fun w hSw => ?_) (by assumption) ?_
  rotate_left
  · (try dsimp only at hSw); first | (go_simp; done) | (go_simp; with_reducible rfl)
  simp only [List.setIfInBounds_toArray, List.set_cons_zero, List.set_cons_succ]
  refine heldTake (v := ?_) 4 61 rfl rfl (by kernel_rfl) (by kernel_rfl) (by kernel_rfl) (fun _ _ _ h => h) (by rfl) (fun w hSw => ?_) (by assumption) ?_
  rotate_left
  · (try dsimp only at hSw); first | (go_simp; done) | (go_simp; with_reducible rfl)
  simp only [List.setIfInBounds_toArray, List.set_cons_zero, List.set_cons_succ]
  refine heldTake (v := ?_) 5 62 rfl rfl (by kernel_rfl) (by kernel_rfl) (by kernel_rfl) (fun _ _ _ h => h) (by rfl) (fun w hSw => ?_) (by assumption) ?_
  rotate_left
  · (try dsimp only at hSw); first | (go_simp; done) | (go_simp; with_reducible rfl)
  simp only [List.setIfInBounds_toArray, List.set_cons_zero, List.set_cons_succ]
  refine heldTake (v := ?_) 6 63 rfl rfl (by kernel_rfl) (by kernel_rfl) (by kernel_rfl) (fun _ _ _ h => h) (by rfl) (fun w hSw => ?_) (by assumption) ?_
  rotate_left
  · (try dsimp only at hSw); first | (go_simp; done) | (go_simp; with_reducible rfl)
  simp only [List.setIfInBounds_toArray, List.set_cons_zero, List.set_cons_succ]
  refine heldTake (v := ?_) 7 64 rfl rfl (by kernel_rfl) (by kernel_rfl) (by kernel_rfl) (fun _ _ _ h => h) (by rfl) (fun w hSw => ?_) (by assumption) ?_
  rotate_left
  · (try dsimp only at hSw); first | (go_simp; done) | (go_simp; with_reducible rfl)
  simp only [List.setIfInBounds_toArray, List.set_cons_zero, List.set_cons_succ]
  refine heldTake (v := ?_) 8 65 rfl rfl (by kernel_rfl) (by kernel_rfl) (by kernel_rfl) (fun _ _ _ h => h) (by rfl) (fun w hSw => ?_) (by assumption) ?_
  rotate_left
  · (try dsimp only at hSw); first | (go_simp; done) | (go_simp; with_reducible rfl)
  simp only [List.setIfInBounds_toArray, List.set_cons_zero, List.set_cons_succ]
  refine heldOne 9 rfl (by kernel_rfl) (by rfl) (fun K2 hK => ?_)
  go_simp
  refine (CF _).mono ?_
  rintro e wz ⟨rfl, hb⟩
  simp only []
  refine hK.out _ _ ?_ (fun hHeld => ?_)
  · first | exact keepP7 (by assumption) (by assumption) | exact keepP7 (Below.refl _ _).drew (by assumption)
  clear hK K2
  try simp only [List.setIfInBounds_toArray, List.set_cons_zero, List.set_cons_succ]
  refine heldTake (v := ?_) 10 67 rfl rfl (by kernel_rfl) (by kernel_rfl) (by kernel_rfl) (fun _ _ _ h => h) (by rfl) (fun w hSw => ?_) (by assumption) ?_
  rotate_left
  · (try dsimp only at hSw); first | (go_simp; done) | (go_simp; with_reducible rfl)
  simp only [List.setIfInBounds_toArray, List.set_cons_zero, List.set_cons_succ]
  refine heldTake (v := ?_) 11 68 rfl rfl (by kernel_rfl) (by kernel_rfl) (by kernel_rfl) (fun _ _ _ h => h) (by rfl) (fun w hSw => ?_) (by assumption) ?_
  rotate_left
  · (try dsimp only at hSw); first | (go_simp; done) | (go_simp; with_reducible rfl)
  simp only [List.setIfInBounds_toArray, List.set_cons_zero, List.set_cons_succ]
  refine heldTake (v := ?_) 12 69 rfl rfl (by kernel_rfl) (by kernel_rfl) (by kernel_rfl) (fun _ _ _ h => h) (by rfl) (fun w hSw => ?_) (by assumption) ?_
  rotate_left
  · (try dsimp only at hSw); first | (go_simp; done) | (go_simp; with_reducible rfl)
  simp only [List.setIfInBounds_toArray, List.set_cons_zero, List.set_cons_succ]
  refine heldSkip 13 70 rfl rfl (by kernel_rfl) (by kernel_rfl) (by kernel_rfl) (fun _ _ _ h => h) (by rfl) (by assumption) ?_
  simp only [List.setIfInBounds_toArray, List.set_cons_zero, List.set_cons_succ]
  refine heldSkip 14 71 rfl rfl (by kernel_rfl) (by kernel_rfl) (by kernel_rfl) (fun _ _ _ h => h) (by rfl) (by assumption) ?_
  simp only [List.setIfInBounds_toArray, List.set_cons_zero, List.set_cons_succ]
  refine heldSkip 15 72 rfl rfl (by kernel_rfl) (by kernel_rfl) (by kernel_rfl) (fun _ _ _ h => h) (by rfl) (by assumption) ?_
  simp only [List.setIfInBounds_toArray, List.set_cons_zero, List.set_cons_succ]
  refine heldSkip 16 73 rfl rfl (by kernel_rfl) (by kernel_rfl) (by kernel_rfl) (fun _ _ _ h => h) (by rfl) (by assumption) ?_
  simp only [List.setIfInBounds_toArray, List.set_cons_zero, List.set_cons_succ]
  refine heldSkip 17 74 rfl rfl (by kernel_rfl) (by kernel_rfl) (by kernel_rfl) (fun _ _ _ h => h) (by rfl) (by assumption) ?_
  simp only [List.setIfInBounds_toArray, List.set_cons_zero, List.set_cons_succ]
  refine heldSkip 18 75 rfl rfl (by kernel_rfl) (by kernel_rfl) (by kernel_rfl) (fun _ _ _ h => h) (by rfl) (by assumption) ?_
  simp only [List.setIfInBounds_toArray, List.set_cons_zero, List.set_cons_succ]
  refine heldSkip 19 76 rfl rfl (by kernel_rfl) (by kernel_rfl) (by kernel_rfl) (fun _ _ _ h => h) (by rfl) (by assumption) ?_
  simp only [List.setIfInBounds_toArray, List.set_cons_zero, List.set_cons_succ]
  refine heldSkip 20 77 rfl rfl (by kernel_rfl) (by kernel_rfl) (by kernel_rfl) (fun _ _ _ h => h) (by rfl) (by assumption) ?_
  simp only [List.setIfInBounds_toArray, List.set_cons_zero, List.set_cons_succ]
  refine heldSkip 21 78 rfl rfl (by kernel_rfl) (by kernel_rfl) (by kernel_rfl) (fun _ _ _ h => h) (by rfl) (by assumption) ?_
  simp only [List.setIfInBounds_toArray, List.set_cons_zero, List.set_cons_succ]
  refine heldSkip 22 79 rfl rfl (by kernel_rfl) (by kernel_rfl) (by kernel_rfl) (fun _ _ _ h => h) (by rfl) (by assumption) ?_
  simp only [List.setIfInBounds_toArray, List.set_cons_zero, List.set_cons_succ]
  refine heldSkip 23 80 rfl rfl (by kernel_rfl) (by kernel_rfl) (by kernel_rfl) (fun _ _ _ h => h) (by rfl) (by assumption) ?_
  simp only [List.setIfInBounds_toArray, List.set_cons_zero, List.set_cons_succ]
  refine heldSkip 24 81 rfl rfl (by kernel_rfl) (by kernel_rfl) (by kernel_rfl) (fun _ _ _ h => h) (by rfl) (by assumption) ?_
  simp only [List.setIfInBounds_toArray, List.set_cons_zero, List.set_cons_succ]
  refine heldSkip 25 82 rfl rfl (by kernel_rfl) (by kernel_rfl) (by kernel_rfl) (fun _ _ _ h => h) (by rfl) (by assumption) ?_
  simp only [List.setIfInBounds_toArray, List.set_cons_zero, List.set_cons_succ]
  refine heldSkip 26 83 rfl rfl (by kernel_rfl) (by kernel_rfl) (by kernel_rfl) (fun _ _ _ h => h) (by rfl) (by assumption) ?_
  simp only [List.setIfInBounds_toArray, List.set_cons_zero, List.set_cons_succ]
  refine heldTake (v := ?_) 27 84 rfl rfl (by kernel_rfl) (by kernel_rfl) (by kernel_rfl) (fun _ _ _ h => h) (by rfl) (fun w hSw => ?_) (by assumption) ?_
  rotate_left
  · (try dsimp only at hSw); first | (go_simp; done) | (go_simp; with_reducible rfl)
  simp only [List.setIfInBounds_toArray, List.set_cons_zero, List.set_cons_succ]
  refine wpAnyH_done (by kernel_rfl) ?_ _
  have HB9 : Hid (Below w.heap.size w _) := hHeld.2.2.2.2.2.2.2
  clear hHeld HS
  go_wp2
  go_ret
  exact ⟨by rw [HE.out]; rfl, HB9.out⟩

set_option maxRecDepth 100000 in
set_option maxHeartbeats 4000000 in
theorem rPred3_col (x : PPr) (a : Option Addr) (n cap : Nat) (ts : List Int) (w : World) (hn : ts.length = n) (h4 : n ≤ 65536) (hr : RdI .i64 w a ts) (hk : x.kind = 3) (hp : placeB x.col n = false) :
    Calls Try.prog 12 #[.agg (cellsP x), .slice a n cap] w fun e w' => e = .returned (.int .i64 (chkP x ts)) ∧ Below w.heap.size w w' := by
  have HN : Hid (ts.length = n) := hn
  have HR : Hid (RdI .i64 w a ts) := hr
  clear hn hr
  have HE : Hid (chkP x ts = 1) := chkP_has (by rw [HN.out]; simp [hasB, hp])
  obtain ⟨k, c, o, vk, vi, vs⟩ := x
  try simp only at hk hp
  simp only [cellsP]
  subst hk
  have ew := wrap_less n h4
  have ew2 : wrap64 ((n : Int) - 1) = (n : Int) - 1 := IntWalk.wrap64_in _ ⟨by omega, by omega⟩
  go_enter Try.func12, Try.ntmps12
  go_wp2_with fail
  refine (p14In_any _ _ _ _).mono ?_
  rintro e w4 ⟨rfl, hb⟩
  rw [show (decide ((1 : Int) ≤ 3) && decide ((3 : Int) ≤ 6)) = true from by decide]
  obtain ⟨c0, c1, c2, c3, c4, c5⟩ := box6 hb
  have HB : Hid (Below w.heap.size w w4) := chain (alloc_below _ _) hb
  clear hb
  go_wp2_with fail
  refine (p14Place _ n hp _).mono ?_
  rintro e w5 ⟨rfl, hb⟩
  have HS : w5.cell? ⟨w.heap.size, 0, none⟩ = some (.int .i64 3) ∧ w5.cell? ⟨w.heap.size, 1, none⟩ = some (.int .i64 c) ∧ w5.cell? ⟨w.heap.size, 2, none⟩ = some (.int .i64 o) ∧ w5.cell? ⟨w.heap.size, 3, none⟩ = some (.int .i64 vk) ∧ w5.cell? ⟨w.heap.size, 4, none⟩ = some (.int .i64 vi) ∧ w5.cell? ⟨w.heap.size, 5, none⟩ = some (.string vs) ∧ Hid (Below w.heap.size w w5) := keepP6 hb ⟨c0, c1, c2, c3, c4, c5, HB⟩
  clear c0 c1 c2 c3 c4 c5 HB hb
  obtain ⟨c0, c1, c2, c3, c4, c5, HB⟩ := HS
  go_wp2
  go_ret
  exact ⟨by rw [HE.out]; rfl, HB.out⟩

set_option maxRecDepth 100000 in
set_option maxHeartbeats 4000000 in
theorem rPred3_oth (x : PPr) (a : Option Addr) (n cap : Nat) (ts : List Int) (w : World) (hn : ts.length = n) (h4 : n ≤ 65536) (hr : RdI .i64 w a ts) (hk : x.kind = 3) (hp : placeB x.col n = true) (hp2 : placeB x.other n = false) :
    Calls Try.prog 12 #[.agg (cellsP x), .slice a n cap] w fun e w' => e = .returned (.int .i64 (chkP x ts)) ∧ Below w.heap.size w w' := by
  have HN : Hid (ts.length = n) := hn
  have HR : Hid (RdI .i64 w a ts) := hr
  clear hn hr
  have HE : Hid (chkP x ts = 1) := chkP_has (by rw [HN.out]; simp [hasB, hp, hp2, hk, askO])
  obtain ⟨k, c, o, vk, vi, vs⟩ := x
  try simp only at hk hp hp2
  simp only [cellsP]
  subst hk
  have ew := wrap_less n h4
  have ew2 : wrap64 ((n : Int) - 1) = (n : Int) - 1 := IntWalk.wrap64_in _ ⟨by omega, by omega⟩
  go_enter Try.func12, Try.ntmps12
  go_wp2_with fail
  refine (p14In_any _ _ _ _).mono ?_
  rintro e w4 ⟨rfl, hb⟩
  rw [show (decide ((1 : Int) ≤ 3) && decide ((3 : Int) ≤ 6)) = true from by decide]
  obtain ⟨c0, c1, c2, c3, c4, c5⟩ := box6 hb
  have HB : Hid (Below w.heap.size w w4) := chain (alloc_below _ _) hb
  clear hb
  go_wp2_with fail
  refine (p14Place _ n hp _).mono ?_
  rintro e w5 ⟨rfl, hb⟩
  have HS : w5.cell? ⟨w.heap.size, 0, none⟩ = some (.int .i64 3) ∧ w5.cell? ⟨w.heap.size, 1, none⟩ = some (.int .i64 c) ∧ w5.cell? ⟨w.heap.size, 2, none⟩ = some (.int .i64 o) ∧ w5.cell? ⟨w.heap.size, 3, none⟩ = some (.int .i64 vk) ∧ w5.cell? ⟨w.heap.size, 4, none⟩ = some (.int .i64 vi) ∧ w5.cell? ⟨w.heap.size, 5, none⟩ = some (.string vs) ∧ Hid (Below w.heap.size w w5) := keepP6 hb ⟨c0, c1, c2, c3, c4, c5, HB⟩
  clear c0 c1 c2 c3 c4 c5 HB hb
  obtain ⟨c0, c1, c2, c3, c4, c5, HB⟩ := HS
  go_wp2_with fail
  refine (p14Place _ n hp2 _).mono ?_
  rintro e w6 ⟨rfl, hb⟩
  have HS : w6.cell? ⟨w.heap.size, 0, none⟩ = some (.int .i64 3) ∧ w6.cell? ⟨w.heap.size, 1, none⟩ = some (.int .i64 c) ∧ w6.cell? ⟨w.heap.size, 2, none⟩ = some (.int .i64 o) ∧ w6.cell? ⟨w.heap.size, 3, none⟩ = some (.int .i64 vk) ∧ w6.cell? ⟨w.heap.size, 4, none⟩ = some (.int .i64 vi) ∧ w6.cell? ⟨w.heap.size, 5, none⟩ = some (.string vs) ∧ Hid (Below w.heap.size w w6) := keepP6 hb ⟨c0, c1, c2, c3, c4, c5, HB⟩
  clear c0 c1 c2 c3 c4 c5 HB hb
  obtain ⟨c0, c1, c2, c3, c4, c5, HB⟩ := HS
  go_wp2
  go_ret
  exact ⟨by rw [HE.out]; rfl, HB.out⟩

set_option maxRecDepth 100000 in
set_option maxHeartbeats 4000000 in
theorem rPred3_true (x : PPr) (a : Option Addr) (n cap : Nat) (ts : List Int) (w : World) (hn : ts.length = n) (h4 : n ≤ 65536) (hr : RdI .i64 w a ts) (hk : x.kind = 3) (hp : placeB x.col n = true) (hp2 : placeB x.other n = true) (hne : atI ts x.other = atI ts x.col) :
    Calls Try.prog 12 #[.agg (cellsP x), .slice a n cap] w fun e w' => e = .returned (.int .i64 (chkP x ts)) ∧ Below w.heap.size w w' := by
  have HN : Hid (ts.length = n) := hn
  have HR : Hid (RdI .i64 w a ts) := hr
  clear hn hr
  have hh : hasB x n = true := by simp [hasB, hp, hp2]
  have hv : askV x.kind = false := by rw [hk]; rfl
  have ho : askO x.kind = true := by rw [hk]; rfl
  have HE : Hid (chkP x ts = if atI ts x.other = atI ts x.col then 0 else 10) := chkP_oth (by rw [hk]; rfl) (by rw [HN.out]; exact hh) hv ho
  obtain ⟨i, hi, hin⟩ := has_col hh
  have hil : i < ts.length := by rw [HN.out]; exact hin
  obtain ⟨b, off, rfl, hc⟩ := HR.out (by omega)
  have y0 := hc i hil
  rw [hi, atI_nat ts i hil] at hne
  have HE := HE.out
  rw [hi, atI_nat ts i hil] at HE
  have i0 : (0 : Int) ≤ (i : Int) := by omega
  have i1 : (i : Int) < (n : Int) := by omega
  obtain ⟨j, hj, hjn⟩ := has_oth hh ho
  have hjl : j < ts.length := by rw [HN.out]; exact hjn
  have z0 := hc j hjl
  rw [hj, atI_nat ts j hjl] at HE hne
  have j0 : (0 : Int) ≤ (j : Int) := by omega
  have j1 : (j : Int) < (n : Int) := by omega
  generalize ts[i] = ty at *
  generalize ts[j] = tz at *
  clear hc hil hjl HR hh hv ho
  rw [if_pos hne] at HE
  subst tz
  have HE : Hid (chkP x ts = 0) := HE
  obtain ⟨k, c, o, vk, vi, vs⟩ := x
  try simp only at hk hp hp2 hi hj
  simp only [cellsP]
  subst hi
  subst hj
  subst hk
  have ew := wrap_less n h4
  have ew2 : wrap64 ((n : Int) - 1) = (n : Int) - 1 := IntWalk.wrap64_in _ ⟨by omega, by omega⟩
  go_enter Try.func12, Try.ntmps12
  go_wp2_with fail
  refine (p14In_any _ _ _ _).mono ?_
  rintro e w4 ⟨rfl, hb⟩
  rw [show (decide ((1 : Int) ≤ 3) && decide ((3 : Int) ≤ 6)) = true from by decide]
  obtain ⟨c0, c1, c2, c3, c4, c5⟩ := box6 hb
  have HB : Hid (Below w.heap.size w w4) := chain (alloc_below _ _) hb
  clear hb
  go_wp2_with fail
  refine (p14Place _ n hp _).mono ?_
  rintro e w5 ⟨rfl, hb⟩
  have HS : w5.cell? ⟨w.heap.size, 0, none⟩ = some (.int .i64 3) ∧ w5.cell? ⟨w.heap.size, 1, none⟩ = some (.int .i64 i) ∧ w5.cell? ⟨w.heap.size, 2, none⟩ = some (.int .i64 j) ∧ w5.cell? ⟨w.heap.size, 3, none⟩ = some (.int .i64 vk) ∧ w5.cell? ⟨w.heap.size, 4, none⟩ = some (.int .i64 vi) ∧ w5.cell? ⟨w.heap.size, 5, none⟩ = some (.string vs) ∧ Hid (Below w.heap.size w w5) := keepP6 hb ⟨c0, c1, c2, c3, c4, c5, HB⟩
  clear c0 c1 c2 c3 c4 c5 HB hb
  obtain ⟨c0, c1, c2, c3, c4, c5, HB⟩ := HS
  go_wp2_with fail
  refine (p14Place _ n hp2 _).mono ?_
  rintro e w6 ⟨rfl, hb⟩
  have HS : w6.cell? ⟨w.heap.size, 0, none⟩ = some (.int .i64 3) ∧ w6.cell? ⟨w.heap.size, 1, none⟩ = some (.int .i64 i) ∧ w6.cell? ⟨w.heap.size, 2, none⟩ = some (.int .i64 j) ∧ w6.cell? ⟨w.heap.size, 3, none⟩ = some (.int .i64 vk) ∧ w6.cell? ⟨w.heap.size, 4, none⟩ = some (.int .i64 vi) ∧ w6.cell? ⟨w.heap.size, 5, none⟩ = some (.string vs) ∧ Hid (Below w.heap.size w w6) := keepP6 hb ⟨c0, c1, c2, c3, c4, c5, HB⟩
  clear c0 c1 c2 c3 c4 c5 HB hb
  obtain ⟨c0, c1, c2, c3, c4, c5, HB⟩ := HS
  go_upto_region 5 with fail
  have HS : w6.cell? ⟨w.heap.size, 0, none⟩ = some (.int .i64 3) ∧ w6.cell? ⟨w.heap.size, 1, none⟩ = some (.int .i64 i) ∧ w6.cell? ⟨w.heap.size, 2, none⟩ = some (.int .i64 j) ∧ w6.cell? ⟨w.heap.size, 3, none⟩ = some (.int .i64 vk) ∧ w6.cell? ⟨w.heap.size, 4, none⟩ = some (.int .i64 vi) ∧ w6.cell? ⟨w.heap.size, 5, none⟩ = some (.string vs) ∧ w6.cell? ⟨b, off + i, none⟩ = some (.int .i64 ty) ∧ w6.cell? ⟨b, off + j, none⟩ = some (.int .i64 ty) ∧ Hid (Below w.heap.size w w6) := ⟨c0, c1, c2, c3, c4, c5, cell_later HB.out y0, cell_later HB.out z0, HB⟩
  have HS : w6.drew.cell? ⟨w.heap.size, 0, none⟩ = some (.int .i64 3) ∧ w6.drew.cell? ⟨w.heap.size, 1, none⟩ = some (.int .i64 i) ∧ w6.drew.cell? ⟨w.heap.size, 2, none⟩ = some (.int .i64 j) ∧ w6.drew.cell? ⟨w.heap.size, 3, none⟩ = some (.int .i64 vk) ∧ w6.drew.cell? ⟨w.heap.size, 4, none⟩ = some (.int .i64 vi) ∧ w6.drew.cell? ⟨w.heap.size, 5, none⟩ = some (.string vs) ∧ w6.drew.cell? ⟨b, off + i, none⟩ = some (.int .i64 ty) ∧ w6.drew.cell? ⟨b, off + j, none⟩ = some (.int .i64 ty) ∧ Hid (Below w.heap.size w w6.drew) := keepP8 (Below.refl _ _).drew HS
  clear c0 c1 c2 c3 c4 c5 y0 z0 HB
  refine wp_region_held_drew (S := (fun w' => w'.cell? ⟨w.heap.size, 0, none⟩ = some (.int .i64 3) ∧ w'.cell? ⟨w.heap.size, 1, none⟩ = some (.int .i64 i) ∧ w'.cell? ⟨w.heap.size, 2, none⟩ = some (.int .i64 j) ∧ w'.cell? ⟨w.heap.size, 3, none⟩ = some (.int .i64 vk) ∧ w'.cell? ⟨w.heap.size, 4, none⟩ = some (.int .i64 vi) ∧ w'.cell? ⟨w.heap.size, 5, none⟩ = some (.string vs) ∧ w'.cell? ⟨b, off + i, none⟩ = some (.int .i64 ty) ∧ w'.cell? ⟨b, off + j, none⟩ = some (.int .i64 ty) ∧ Hid (Below w.heap.size w w'))) (by kernel_rfl) HS (fun hHeld => ?_)
  refine heldTake (v := ?_) 0 57 rfl rfl (by kernel_rfl) (by kernel_rfl) (by kernel_rfl) (fun _ _ _ h => h) (by rfl) (fun w hSw => ?_) (by assumption) ?_
  rotate_left
  · (try dsimp only at hSw); first | (go_simp; done) | (go_simp; with_reducible rfl)
  simp only [List.setIfInBounds_toArray, List.set_cons_zero, List.set_cons_succ]
  refine heldTake (v := ?_) 1 58 rfl rfl (by kernel_rfl) (by kernel_rfl) (by kernel_rfl) (fun _ _ _ h => h) (by rfl) (fun w hSw => ?_) (by assumption) ?_
  rotate_left
  · (try dsimp only at hSw); first | (go_simp; done) | (go_simp; with_reducible rfl)
  simp only [List.setIfInBounds_toArray, List.set_cons_zero, List.set_cons_succ]
  refine heldSkip 2 59 rfl rfl (by kernel_rfl) (by kernel_rfl) (by kernel_rfl) (fun _ _ _ h => h) (by rfl) (by assumption) ?_
  simp only [List.setIfInBounds_toArray, List.set_cons_zero, List.set_cons_succ]
  refine heldSkip 3 60 rfl rfl (by kernel_rfl) (by kernel_rfl) (by kernel_rfl) (fun _ _ _ h => h) (by rfl) (by assumption) ?_
  simp only [List.setIfInBounds_toArray, List.set_cons_zero, List.set_cons_succ]
  refine heldSkip 4 61 rfl rfl (by kernel_rfl) (by kernel_rfl) (by kernel_rfl) (fun _ _ _ h => h) (by rfl) (by assumption) ?_
  simp only [List.setIfInBounds_toArray, List.set_cons_zero, List.set_cons_succ]
  refine heldSkip 5 62 rfl rfl (by kernel_rfl) (by kernel_rfl) (by kernel_rfl) (fun _ _ _ h => h) (by rfl) (by assumption) ?_
  simp only [List.setIfInBounds_toArray, List.set_cons_zero, List.set_cons_succ]
  refine heldSkip 6 63 rfl rfl (by kernel_rfl) (by kernel_rfl) (by kernel_rfl) (fun _ _ _ h => h) (by rfl) (by assumption) ?_
  simp only [List.setIfInBounds_toArray, List.set_cons_zero, List.set_cons_succ]
  refine heldSkip 7 64 rfl rfl (by kernel_rfl) (by kernel_rfl) (by kernel_rfl) (fun _ _ _ h => h) (by rfl) (by assumption) ?_
  simp only [List.setIfInBounds_toArray, List.set_cons_zero, List.set_cons_succ]
  refine heldSkip 8 65 rfl rfl (by kernel_rfl) (by kernel_rfl) (by kernel_rfl) (fun _ _ _ h => h) (by rfl) (by assumption) ?_
  simp only [List.setIfInBounds_toArray, List.set_cons_zero, List.set_cons_succ]
  refine heldSkip 9 66 rfl rfl (by kernel_rfl) (by kernel_rfl) (by kernel_rfl) (fun _ _ _ h => h) (by rfl) (by assumption) ?_
  simp only [List.setIfInBounds_toArray, List.set_cons_zero, List.set_cons_succ]
  refine heldSkip 10 67 rfl rfl (by kernel_rfl) (by kernel_rfl) (by kernel_rfl) (fun _ _ _ h => h) (by rfl) (by assumption) ?_
  simp only [List.setIfInBounds_toArray, List.set_cons_zero, List.set_cons_succ]
  refine heldTake (v := ?_) 11 68 rfl rfl (by kernel_rfl) (by kernel_rfl) (by kernel_rfl) (fun _ _ _ h => h) (by rfl) (fun w hSw => ?_) (by assumption) ?_
  rotate_left
  · (try dsimp only at hSw); first | (go_simp; done) | (go_simp; with_reducible rfl)
  simp only [List.setIfInBounds_toArray, List.set_cons_zero, List.set_cons_succ]
  refine heldTake (v := ?_) 12 69 rfl rfl (by kernel_rfl) (by kernel_rfl) (by kernel_rfl) (fun _ _ _ h => h) (by rfl) (fun w hSw => ?_) (by assumption) ?_
  rotate_left
  · (try dsimp only at hSw); first | (go_simp; done) | (go_simp; with_reducible rfl)
  simp only [List.setIfInBounds_toArray, List.set_cons_zero, List.set_cons_succ]
  refine heldTake (v := ?_) 13 70 rfl rfl (by kernel_rfl) (by kernel_rfl) (by kernel_rfl) (fun _ _ _ h => h) (by rfl) (fun w hSw => ?_) (by assumption) ?_
  rotate_left
  · (try dsimp only at hSw); first | (go_simp; done) | (go_simp; with_reducible rfl)
  simp only [List.setIfInBounds_toArray, List.set_cons_zero, List.set_cons_succ]
  refine heldTake (v := ?_) 14 71 rfl rfl (by kernel_rfl) (by kernel_rfl) (by kernel_rfl) (fun _ _ _ h => h) (by rfl) (fun w hSw => ?_) (by assumption) ?_
  rotate_left
  · (try dsimp only at hSw); first | (go_simp; done) | (go_simp; with_reducible rfl)
  simp only [List.setIfInBounds_toArray, List.set_cons_zero, List.set_cons_succ]
  refine heldTake (v := ?_) 15 72 rfl rfl (by kernel_rfl) (by kernel_rfl) (by kernel_rfl) (fun _ _ _ h => h) (by rfl) (fun w hSw => ?_) (by assumption) ?_
  rotate_left
  · (try dsimp only at hSw); first | (go_simp; done) | (go_simp; with_reducible rfl)
  simp only [List.setIfInBounds_toArray, List.set_cons_zero, List.set_cons_succ]
  refine heldTake (v := ?_) 16 73 rfl rfl (by kernel_rfl) (by kernel_rfl) (by kernel_rfl) (fun _ _ _ h => h) (by rfl) (fun w hSw => ?_) (by assumption) ?_
  rotate_left
  · (try dsimp only at hSw); first | (go_simp; done) | (go_simp; with_reducible rfl)
  simp only [List.setIfInBounds_toArray, List.set_cons_zero, List.set_cons_succ]
  refine heldTake (v := ?_) 17 74 rfl rfl (by kernel_rfl) (by kernel_rfl) (by kernel_rfl) (fun _ _ _ h => h) (by rfl) (fun w hSw => ?_) (by assumption) ?_
  rotate_left
  · (try dsimp only at hSw); first | (go_simp; done) | (go_simp; with_reducible rfl)
  simp only [List.setIfInBounds_toArray, List.set_cons_zero, List.set_cons_succ]
  refine heldTake (v := ?_) 18 75 rfl rfl (by kernel_rfl) (by kernel_rfl) (by kernel_rfl) (fun _ _ _ h => h) (by rfl) (fun w hSw => ?_) (by assumption) ?_
  rotate_left
  · (try dsimp only at hSw); first | (go_simp; done) | (go_simp; with_reducible rfl)
  simp only [List.setIfInBounds_toArray, List.set_cons_zero, List.set_cons_succ]
  refine heldTake (v := ?_) 19 76 rfl rfl (by kernel_rfl) (by kernel_rfl) (by kernel_rfl) (fun _ _ _ h => h) (by rfl) (fun w hSw => ?_) (by assumption) ?_
  rotate_left
  · (try dsimp only at hSw); first | (go_simp; done) | (go_simp; with_reducible rfl)
  simp only [List.setIfInBounds_toArray, List.set_cons_zero, List.set_cons_succ]
  refine heldTake (v := ?_) 20 77 rfl rfl (by kernel_rfl) (by kernel_rfl) (by kernel_rfl) (fun _ _ _ h => h) (by rfl) (fun w hSw => ?_) (by assumption) ?_
  rotate_left
  · (try dsimp only at hSw); first | (go_simp; done) | (go_simp; with_reducible rfl)
  simp only [List.setIfInBounds_toArray, List.set_cons_zero, List.set_cons_succ]
  refine heldTake (v := ?_) 21 78 rfl rfl (by kernel_rfl) (by kernel_rfl) (by kernel_rfl) (fun _ _ _ h => h) (by rfl) (fun w hSw => ?_) (by assumption) ?_
  rotate_left
  · (try dsimp only at hSw); first | (go_simp; done) | (go_simp; with_reducible rfl)
  simp only [List.setIfInBounds_toArray, List.set_cons_zero, List.set_cons_succ]
  refine heldTake (v := ?_) 22 79 rfl rfl (by kernel_rfl) (by kernel_rfl) (by kernel_rfl) (fun _ _ _ h => h) (by rfl) (fun w hSw => ?_) (by assumption) ?_
  rotate_left
  · (try dsimp only at hSw); first | (go_simp; done) | (go_simp; with_reducible rfl)
  simp only [List.setIfInBounds_toArray, List.set_cons_zero, List.set_cons_succ]
  refine heldTake (v := ?_) 23 80 rfl rfl (by kernel_rfl) (by kernel_rfl) (by kernel_rfl) (fun _ _ _ h => h) (by rfl) (fun w hSw => ?_) (by assumption) ?_
  rotate_left
  · (try dsimp only at hSw); first | (go_simp; done) | (go_simp; with_reducible rfl)
  simp only [List.setIfInBounds_toArray, List.set_cons_zero, List.set_cons_succ]
  refine heldTake (v := ?_) 24 81 rfl rfl (by kernel_rfl) (by kernel_rfl) (by kernel_rfl) (fun _ _ _ h => h) (by rfl) (fun w hSw => ?_) (by assumption) ?_
  rotate_left
  · (try dsimp only at hSw); first | (go_simp; done) | (go_simp; with_reducible rfl)
  simp only [List.setIfInBounds_toArray, List.set_cons_zero, List.set_cons_succ]
  refine heldTake (v := ?_) 25 82 rfl rfl (by kernel_rfl) (by kernel_rfl) (by kernel_rfl) (fun _ _ _ h => h) (by rfl) (fun w hSw => ?_) (by assumption) ?_
  rotate_left
  · (try dsimp only at hSw); first | (go_simp; done) | (go_simp; with_reducible rfl)
  simp only [List.setIfInBounds_toArray, List.set_cons_zero, List.set_cons_succ]
  refine heldTake (v := ?_) 26 83 rfl rfl (by kernel_rfl) (by kernel_rfl) (by kernel_rfl) (fun _ _ _ h => h) (by rfl) (fun w hSw => ?_) (by assumption) ?_
  rotate_left
  · (try dsimp only at hSw); first | (go_simp; done) | (go_simp; with_reducible rfl)
  simp only [List.setIfInBounds_toArray, List.set_cons_zero, List.set_cons_succ]
  refine heldTake (v := ?_) 27 84 rfl rfl (by kernel_rfl) (by kernel_rfl) (by kernel_rfl) (fun _ _ _ h => h) (by rfl) (fun w hSw => ?_) (by assumption) ?_
  rotate_left
  · (try dsimp only at hSw); first | (go_simp; done) | (go_simp; with_reducible rfl)
  simp only [List.setIfInBounds_toArray, List.set_cons_zero, List.set_cons_succ]
  refine wpAnyH_done (by kernel_rfl) ?_ _
  have HB9 : Hid (Below w.heap.size w _) := hHeld.2.2.2.2.2.2.2.2
  clear hHeld HS
  go_wp2
  go_ret
  exact ⟨by rw [HE.out]; rfl, HB9.out⟩

set_option maxRecDepth 100000 in
set_option maxHeartbeats 4000000 in
theorem rPred3_false (x : PPr) (a : Option Addr) (n cap : Nat) (ts : List Int) (w : World) (hn : ts.length = n) (h4 : n ≤ 65536) (hr : RdI .i64 w a ts) (hk : x.kind = 3) (hp : placeB x.col n = true) (hp2 : placeB x.other n = true) (hne : atI ts x.other ≠ atI ts x.col) :
    Calls Try.prog 12 #[.agg (cellsP x), .slice a n cap] w fun e w' => e = .returned (.int .i64 (chkP x ts)) ∧ Below w.heap.size w w' := by
  have HN : Hid (ts.length = n) := hn
  have HR : Hid (RdI .i64 w a ts) := hr
  clear hn hr
  have hh : hasB x n = true := by simp [hasB, hp, hp2]
  have hv : askV x.kind = false := by rw [hk]; rfl
  have ho : askO x.kind = true := by rw [hk]; rfl
  have HE : Hid (chkP x ts = if atI ts x.other = atI ts x.col then 0 else 10) := chkP_oth (by rw [hk]; rfl) (by rw [HN.out]; exact hh) hv ho
  obtain ⟨i, hi, hin⟩ := has_col hh
  have hil : i < ts.length := by rw [HN.out]; exact hin
  obtain ⟨b, off, rfl, hc⟩ := HR.out (by omega)
  have y0 := hc i hil
  rw [hi, atI_nat ts i hil] at hne
  have HE := HE.out
  rw [hi, atI_nat ts i hil] at HE
  have i0 : (0 : Int) ≤ (i : Int) := by omega
  have i1 : (i : Int) < (n : Int) := by omega
  obtain ⟨j, hj, hjn⟩ := has_oth hh ho
  have hjl : j < ts.length := by rw [HN.out]; exact hjn
  have z0 := hc j hjl
  rw [hj, atI_nat ts j hjl] at HE hne
  have j0 : (0 : Int) ≤ (j : Int) := by omega
  have j1 : (j : Int) < (n : Int) := by omega
  generalize ts[i] = ty at *
  generalize ts[j] = tz at *
  clear hc hil hjl HR hh hv ho
  rw [if_neg hne] at HE
  have HE : Hid (chkP x ts = 10) := HE
  obtain ⟨k, c, o, vk, vi, vs⟩ := x
  try simp only at hk hp hp2 hi hj
  simp only [cellsP]
  subst hi
  subst hj
  subst hk
  have ew := wrap_less n h4
  have ew2 : wrap64 ((n : Int) - 1) = (n : Int) - 1 := IntWalk.wrap64_in _ ⟨by omega, by omega⟩
  go_enter Try.func12, Try.ntmps12
  go_wp2_with fail
  refine (p14In_any _ _ _ _).mono ?_
  rintro e w4 ⟨rfl, hb⟩
  rw [show (decide ((1 : Int) ≤ 3) && decide ((3 : Int) ≤ 6)) = true from by decide]
  obtain ⟨c0, c1, c2, c3, c4, c5⟩ := box6 hb
  have HB : Hid (Below w.heap.size w w4) := chain (alloc_below _ _) hb
  clear hb
  go_wp2_with fail
  refine (p14Place _ n hp _).mono ?_
  rintro e w5 ⟨rfl, hb⟩
  have HS : w5.cell? ⟨w.heap.size, 0, none⟩ = some (.int .i64 3) ∧ w5.cell? ⟨w.heap.size, 1, none⟩ = some (.int .i64 i) ∧ w5.cell? ⟨w.heap.size, 2, none⟩ = some (.int .i64 j) ∧ w5.cell? ⟨w.heap.size, 3, none⟩ = some (.int .i64 vk) ∧ w5.cell? ⟨w.heap.size, 4, none⟩ = some (.int .i64 vi) ∧ w5.cell? ⟨w.heap.size, 5, none⟩ = some (.string vs) ∧ Hid (Below w.heap.size w w5) := keepP6 hb ⟨c0, c1, c2, c3, c4, c5, HB⟩
  clear c0 c1 c2 c3 c4 c5 HB hb
  obtain ⟨c0, c1, c2, c3, c4, c5, HB⟩ := HS
  go_wp2_with fail
  refine (p14Place _ n hp2 _).mono ?_
  rintro e w6 ⟨rfl, hb⟩
  have HS : w6.cell? ⟨w.heap.size, 0, none⟩ = some (.int .i64 3) ∧ w6.cell? ⟨w.heap.size, 1, none⟩ = some (.int .i64 i) ∧ w6.cell? ⟨w.heap.size, 2, none⟩ = some (.int .i64 j) ∧ w6.cell? ⟨w.heap.size, 3, none⟩ = some (.int .i64 vk) ∧ w6.cell? ⟨w.heap.size, 4, none⟩ = some (.int .i64 vi) ∧ w6.cell? ⟨w.heap.size, 5, none⟩ = some (.string vs) ∧ Hid (Below w.heap.size w w6) := keepP6 hb ⟨c0, c1, c2, c3, c4, c5, HB⟩
  clear c0 c1 c2 c3 c4 c5 HB hb
  obtain ⟨c0, c1, c2, c3, c4, c5, HB⟩ := HS
  go_upto_region 5 with fail
  have HS : w6.cell? ⟨w.heap.size, 0, none⟩ = some (.int .i64 3) ∧ w6.cell? ⟨w.heap.size, 1, none⟩ = some (.int .i64 i) ∧ w6.cell? ⟨w.heap.size, 2, none⟩ = some (.int .i64 j) ∧ w6.cell? ⟨w.heap.size, 3, none⟩ = some (.int .i64 vk) ∧ w6.cell? ⟨w.heap.size, 4, none⟩ = some (.int .i64 vi) ∧ w6.cell? ⟨w.heap.size, 5, none⟩ = some (.string vs) ∧ w6.cell? ⟨b, off + i, none⟩ = some (.int .i64 ty) ∧ w6.cell? ⟨b, off + j, none⟩ = some (.int .i64 tz) ∧ Hid (Below w.heap.size w w6) := ⟨c0, c1, c2, c3, c4, c5, cell_later HB.out y0, cell_later HB.out z0, HB⟩
  have HS : w6.drew.cell? ⟨w.heap.size, 0, none⟩ = some (.int .i64 3) ∧ w6.drew.cell? ⟨w.heap.size, 1, none⟩ = some (.int .i64 i) ∧ w6.drew.cell? ⟨w.heap.size, 2, none⟩ = some (.int .i64 j) ∧ w6.drew.cell? ⟨w.heap.size, 3, none⟩ = some (.int .i64 vk) ∧ w6.drew.cell? ⟨w.heap.size, 4, none⟩ = some (.int .i64 vi) ∧ w6.drew.cell? ⟨w.heap.size, 5, none⟩ = some (.string vs) ∧ w6.drew.cell? ⟨b, off + i, none⟩ = some (.int .i64 ty) ∧ w6.drew.cell? ⟨b, off + j, none⟩ = some (.int .i64 tz) ∧ Hid (Below w.heap.size w w6.drew) := keepP8 (Below.refl _ _).drew HS
  clear c0 c1 c2 c3 c4 c5 y0 z0 HB
  have ne1 : (tz != ty) = true := by simpa using hne
  have ne2 : (tz = ty) = False := eq_false hne
  clear hne
  refine wp_region_held_drew (S := (fun w' => w'.cell? ⟨w.heap.size, 0, none⟩ = some (.int .i64 3) ∧ w'.cell? ⟨w.heap.size, 1, none⟩ = some (.int .i64 i) ∧ w'.cell? ⟨w.heap.size, 2, none⟩ = some (.int .i64 j) ∧ w'.cell? ⟨w.heap.size, 3, none⟩ = some (.int .i64 vk) ∧ w'.cell? ⟨w.heap.size, 4, none⟩ = some (.int .i64 vi) ∧ w'.cell? ⟨w.heap.size, 5, none⟩ = some (.string vs) ∧ w'.cell? ⟨b, off + i, none⟩ = some (.int .i64 ty) ∧ w'.cell? ⟨b, off + j, none⟩ = some (.int .i64 tz) ∧ Hid (Below w.heap.size w w'))) (by kernel_rfl) HS (fun hHeld => ?_)
  refine heldTake (v := ?_) 0 57 rfl rfl (by kernel_rfl) (by kernel_rfl) (by kernel_rfl) (fun _ _ _ h => h) (by rfl) (fun w hSw => ?_) (by assumption) ?_
  rotate_left
  · (try dsimp only at hSw); first | (go_simp; done) | (go_simp; with_reducible rfl)
  simp only [List.setIfInBounds_toArray, List.set_cons_zero, List.set_cons_succ]
  refine heldTake (v := ?_) 1 58 rfl rfl (by kernel_rfl) (by kernel_rfl) (by kernel_rfl) (fun _ _ _ h => h) (by rfl) (fun w hSw => ?_) (by assumption) ?_
  rotate_left
  · (try dsimp only at hSw); first | (go_simp; done) | (go_simp; with_reducible rfl)
  simp only [List.setIfInBounds_toArray, List.set_cons_zero, List.set_cons_succ]
  refine heldSkip 2 59 rfl rfl (by kernel_rfl) (by kernel_rfl) (by kernel_rfl) (fun _ _ _ h => h) (by rfl) (by assumption) ?_
  simp only [List.setIfInBounds_toArray, List.set_cons_zero, List.set_cons_succ]
  refine heldSkip 3 60 rfl rfl (by kernel_rfl) (by kernel_rfl) (by kernel_rfl) (fun _ _ _ h => h) (by rfl) (by assumption) ?_
  simp only [List.setIfInBounds_toArray, List.set_cons_zero, List.set_cons_succ]
  refine heldSkip 4 61 rfl rfl (by kernel_rfl) (by kernel_rfl) (by kernel_rfl) (fun _ _ _ h => h) (by rfl) (by assumption) ?_
  simp only [List.setIfInBounds_toArray, List.set_cons_zero, List.set_cons_succ]
  refine heldSkip 5 62 rfl rfl (by kernel_rfl) (by kernel_rfl) (by kernel_rfl) (fun _ _ _ h => h) (by rfl) (by assumption) ?_
  simp only [List.setIfInBounds_toArray, List.set_cons_zero, List.set_cons_succ]
  refine heldSkip 6 63 rfl rfl (by kernel_rfl) (by kernel_rfl) (by kernel_rfl) (fun _ _ _ h => h) (by rfl) (by assumption) ?_
  simp only [List.setIfInBounds_toArray, List.set_cons_zero, List.set_cons_succ]
  refine heldSkip 7 64 rfl rfl (by kernel_rfl) (by kernel_rfl) (by kernel_rfl) (fun _ _ _ h => h) (by rfl) (by assumption) ?_
  simp only [List.setIfInBounds_toArray, List.set_cons_zero, List.set_cons_succ]
  refine heldSkip 8 65 rfl rfl (by kernel_rfl) (by kernel_rfl) (by kernel_rfl) (fun _ _ _ h => h) (by rfl) (by assumption) ?_
  simp only [List.setIfInBounds_toArray, List.set_cons_zero, List.set_cons_succ]
  refine heldSkip 9 66 rfl rfl (by kernel_rfl) (by kernel_rfl) (by kernel_rfl) (fun _ _ _ h => h) (by rfl) (by assumption) ?_
  simp only [List.setIfInBounds_toArray, List.set_cons_zero, List.set_cons_succ]
  refine heldSkip 10 67 rfl rfl (by kernel_rfl) (by kernel_rfl) (by kernel_rfl) (fun _ _ _ h => h) (by rfl) (by assumption) ?_
  simp only [List.setIfInBounds_toArray, List.set_cons_zero, List.set_cons_succ]
  refine heldTake (v := ?_) 11 68 rfl rfl (by kernel_rfl) (by kernel_rfl) (by kernel_rfl) (fun _ _ _ h => h) (by rfl) (fun w hSw => ?_) (by assumption) ?_
  rotate_left
  · (try dsimp only at hSw); first | (go_simp; done) | (go_simp; with_reducible rfl)
  simp only [List.setIfInBounds_toArray, List.set_cons_zero, List.set_cons_succ]
  refine heldTake (v := ?_) 12 69 rfl rfl (by kernel_rfl) (by kernel_rfl) (by kernel_rfl) (fun _ _ _ h => h) (by rfl) (fun w hSw => ?_) (by assumption) ?_
  rotate_left
  · (try dsimp only at hSw); first | (go_simp; done) | (go_simp; with_reducible rfl)
  simp only [List.setIfInBounds_toArray, List.set_cons_zero, List.set_cons_succ]
  refine heldTake (v := ?_) 13 70 rfl rfl (by kernel_rfl) (by kernel_rfl) (by kernel_rfl) (fun _ _ _ h => h) (by rfl) (fun w hSw => ?_) (by assumption) ?_
  rotate_left
  · (try dsimp only at hSw); first | (go_simp; done) | (go_simp; with_reducible rfl)
  simp only [List.setIfInBounds_toArray, List.set_cons_zero, List.set_cons_succ]
  refine heldTake (v := ?_) 14 71 rfl rfl (by kernel_rfl) (by kernel_rfl) (by kernel_rfl) (fun _ _ _ h => h) (by rfl) (fun w hSw => ?_) (by assumption) ?_
  rotate_left
  · (try dsimp only at hSw); first | (go_simp; done) | (go_simp; with_reducible rfl)
  simp only [List.setIfInBounds_toArray, List.set_cons_zero, List.set_cons_succ]
  refine heldTake (v := ?_) 15 72 rfl rfl (by kernel_rfl) (by kernel_rfl) (by kernel_rfl) (fun _ _ _ h => h) (by rfl) (fun w hSw => ?_) (by assumption) ?_
  rotate_left
  · (try dsimp only at hSw); first | (go_simp; done) | (go_simp; with_reducible rfl)
  simp only [List.setIfInBounds_toArray, List.set_cons_zero, List.set_cons_succ]
  refine heldTake (v := ?_) 16 73 rfl rfl (by kernel_rfl) (by kernel_rfl) (by kernel_rfl) (fun _ _ _ h => h) (by rfl) (fun w hSw => ?_) (by assumption) ?_
  rotate_left
  · (try dsimp only at hSw); first | (go_simp; done) | (go_simp; with_reducible rfl)
  simp only [List.setIfInBounds_toArray, List.set_cons_zero, List.set_cons_succ]
  refine heldTake (v := ?_) 17 74 rfl rfl (by kernel_rfl) (by kernel_rfl) (by kernel_rfl) (fun _ _ _ h => h) (by rfl) (fun w hSw => ?_) (by assumption) ?_
  rotate_left
  · (try dsimp only at hSw); first | (go_simp; done) | (go_simp; with_reducible rfl)
  simp only [List.setIfInBounds_toArray, List.set_cons_zero, List.set_cons_succ]
  refine heldTake (v := ?_) 18 75 rfl rfl (by kernel_rfl) (by kernel_rfl) (by kernel_rfl) (fun _ _ _ h => h) (by rfl) (fun w hSw => ?_) (by assumption) ?_
  rotate_left
  · (try dsimp only at hSw); first | (go_simp; done) | (go_simp; with_reducible rfl)
  simp only [List.setIfInBounds_toArray, List.set_cons_zero, List.set_cons_succ]
  refine heldTake (v := ?_) 19 76 rfl rfl (by kernel_rfl) (by kernel_rfl) (by kernel_rfl) (fun _ _ _ h => h) (by rfl) (fun w hSw => ?_) (by assumption) ?_
  rotate_left
  · (try dsimp only at hSw); first | (go_simp; done) | (go_simp; with_reducible rfl)
  simp only [List.setIfInBounds_toArray, List.set_cons_zero, List.set_cons_succ]
  refine heldTake (v := ?_) 20 77 rfl rfl (by kernel_rfl) (by kernel_rfl) (by kernel_rfl) (fun _ _ _ h => h) (by rfl) (fun w hSw => ?_) (by assumption) ?_
  rotate_left
  · (try dsimp only at hSw); first | (go_simp; done) | (go_simp; with_reducible rfl)
  simp only [List.setIfInBounds_toArray, List.set_cons_zero, List.set_cons_succ]
  refine heldTake (v := ?_) 21 78 rfl rfl (by kernel_rfl) (by kernel_rfl) (by kernel_rfl) (fun _ _ _ h => h) (by rfl) (fun w hSw => ?_) (by assumption) ?_
  rotate_left
  · (try dsimp only at hSw); first | (go_simp; done) | (go_simp; with_reducible rfl)
  simp only [List.setIfInBounds_toArray, List.set_cons_zero, List.set_cons_succ]
  refine heldTake (v := ?_) 22 79 rfl rfl (by kernel_rfl) (by kernel_rfl) (by kernel_rfl) (fun _ _ _ h => h) (by rfl) (fun w hSw => ?_) (by assumption) ?_
  rotate_left
  · (try dsimp only at hSw); first | (go_simp; done) | (go_simp; with_reducible rfl)
  simp only [List.setIfInBounds_toArray, List.set_cons_zero, List.set_cons_succ]
  refine heldTake (v := ?_) 23 80 rfl rfl (by kernel_rfl) (by kernel_rfl) (by kernel_rfl) (fun _ _ _ h => h) (by rfl) (fun w hSw => ?_) (by assumption) ?_
  rotate_left
  · (try dsimp only at hSw); first | (go_simp; done) | (go_simp; with_reducible rfl)
  simp only [List.setIfInBounds_toArray, List.set_cons_zero, List.set_cons_succ]
  refine heldTake (v := ?_) 24 81 rfl rfl (by kernel_rfl) (by kernel_rfl) (by kernel_rfl) (fun _ _ _ h => h) (by rfl) (fun w hSw => ?_) (by assumption) ?_
  rotate_left
  · (try dsimp only at hSw); first | (go_simp; done) | (go_simp; with_reducible rfl)
  simp only [List.setIfInBounds_toArray, List.set_cons_zero, List.set_cons_succ]
  refine heldTake (v := ?_) 25 82 rfl rfl (by kernel_rfl) (by kernel_rfl) (by kernel_rfl) (fun _ _ _ h => h) (by rfl) (fun w hSw => ?_) (by assumption) ?_
  rotate_left
  · (try dsimp only at hSw); first | (go_simp; done) | (go_simp; with_reducible rfl)
  simp only [List.setIfInBounds_toArray, List.set_cons_zero, List.set_cons_succ]
  refine heldTake (v := ?_) 26 83 rfl rfl (by kernel_rfl) (by kernel_rfl) (by kernel_rfl) (fun _ _ _ h => h) (by rfl) (fun w hSw => ?_) (by assumption) ?_
  rotate_left
  · (try dsimp only at hSw); first | (go_simp; done) | (go_simp; with_reducible rfl)
  simp only [List.setIfInBounds_toArray, List.set_cons_zero, List.set_cons_succ]
  refine heldTake (v := ?_) 27 84 rfl rfl (by kernel_rfl) (by kernel_rfl) (by kernel_rfl) (fun _ _ _ h => h) (by rfl) (fun w hSw => ?_) (by assumption) ?_
  rotate_left
  · (try dsimp only at hSw); first | (go_simp; done) | (go_simp; with_reducible rfl)
  simp only [List.setIfInBounds_toArray, List.set_cons_zero, List.set_cons_succ]
  refine wpAnyH_done (by kernel_rfl) ?_ _
  have HB9 : Hid (Below w.heap.size w _) := hHeld.2.2.2.2.2.2.2.2
  clear hHeld HS
  go_wp2
  go_ret
  exact ⟨by rw [HE.out]; rfl, HB9.out⟩

set_option maxRecDepth 100000 in
set_option maxHeartbeats 4000000 in
theorem rPred4_col (x : PPr) (a : Option Addr) (n cap : Nat) (ts : List Int) (w : World) (hn : ts.length = n) (h4 : n ≤ 65536) (hr : RdI .i64 w a ts) (hk : x.kind = 4) (hp : placeB x.col n = false) :
    Calls Try.prog 12 #[.agg (cellsP x), .slice a n cap] w fun e w' => e = .returned (.int .i64 (chkP x ts)) ∧ Below w.heap.size w w' := by
  have HN : Hid (ts.length = n) := hn
  have HR : Hid (RdI .i64 w a ts) := hr
  clear hn hr
  have HE : Hid (chkP x ts = 1) := chkP_has (by rw [HN.out]; simp [hasB, hp])
  obtain ⟨k, c, o, vk, vi, vs⟩ := x
  try simp only at hk hp
  simp only [cellsP]
  subst hk
  have ew := wrap_less n h4
  have ew2 : wrap64 ((n : Int) - 1) = (n : Int) - 1 := IntWalk.wrap64_in _ ⟨by omega, by omega⟩
  go_enter Try.func12, Try.ntmps12
  go_wp2_with fail
  refine (p14In_any _ _ _ _).mono ?_
  rintro e w4 ⟨rfl, hb⟩
  rw [show (decide ((1 : Int) ≤ 4) && decide ((4 : Int) ≤ 6)) = true from by decide]
  obtain ⟨c0, c1, c2, c3, c4, c5⟩ := box6 hb
  have HB : Hid (Below w.heap.size w w4) := chain (alloc_below _ _) hb
  clear hb
  go_wp2_with fail
  refine (p14Place _ n hp _).mono ?_
  rintro e w5 ⟨rfl, hb⟩
  have HS : w5.cell? ⟨w.heap.size, 0, none⟩ = some (.int .i64 4) ∧ w5.cell? ⟨w.heap.size, 1, none⟩ = some (.int .i64 c) ∧ w5.cell? ⟨w.heap.size, 2, none⟩ = some (.int .i64 o) ∧ w5.cell? ⟨w.heap.size, 3, none⟩ = some (.int .i64 vk) ∧ w5.cell? ⟨w.heap.size, 4, none⟩ = some (.int .i64 vi) ∧ w5.cell? ⟨w.heap.size, 5, none⟩ = some (.string vs) ∧ Hid (Below w.heap.size w w5) := keepP6 hb ⟨c0, c1, c2, c3, c4, c5, HB⟩
  clear c0 c1 c2 c3 c4 c5 HB hb
  obtain ⟨c0, c1, c2, c3, c4, c5, HB⟩ := HS
  go_wp2
  go_ret
  exact ⟨by rw [HE.out]; rfl, HB.out⟩

set_option maxRecDepth 100000 in
set_option maxHeartbeats 4000000 in
theorem rPred4_oth (x : PPr) (a : Option Addr) (n cap : Nat) (ts : List Int) (w : World) (hn : ts.length = n) (h4 : n ≤ 65536) (hr : RdI .i64 w a ts) (hk : x.kind = 4) (hp : placeB x.col n = true) (hp2 : placeB x.other n = false) :
    Calls Try.prog 12 #[.agg (cellsP x), .slice a n cap] w fun e w' => e = .returned (.int .i64 (chkP x ts)) ∧ Below w.heap.size w w' := by
  have HN : Hid (ts.length = n) := hn
  have HR : Hid (RdI .i64 w a ts) := hr
  clear hn hr
  have HE : Hid (chkP x ts = 1) := chkP_has (by rw [HN.out]; simp [hasB, hp, hp2, hk, askO])
  obtain ⟨k, c, o, vk, vi, vs⟩ := x
  try simp only at hk hp hp2
  simp only [cellsP]
  subst hk
  have ew := wrap_less n h4
  have ew2 : wrap64 ((n : Int) - 1) = (n : Int) - 1 := IntWalk.wrap64_in _ ⟨by omega, by omega⟩
  go_enter Try.func12, Try.ntmps12
  go_wp2_with fail
  refine (p14In_any _ _ _ _).mono ?_
  rintro e w4 ⟨rfl, hb⟩
  rw [show (decide ((1 : Int) ≤ 4) && decide ((4 : Int) ≤ 6)) = true from by decide]
  obtain ⟨c0, c1, c2, c3, c4, c5⟩ := box6 hb
  have HB : Hid (Below w.heap.size w w4) := chain (alloc_below _ _) hb
  clear hb
  go_wp2_with fail
  refine (p14Place _ n hp _).mono ?_
  rintro e w5 ⟨rfl, hb⟩
  have HS : w5.cell? ⟨w.heap.size, 0, none⟩ = some (.int .i64 4) ∧ w5.cell? ⟨w.heap.size, 1, none⟩ = some (.int .i64 c) ∧ w5.cell? ⟨w.heap.size, 2, none⟩ = some (.int .i64 o) ∧ w5.cell? ⟨w.heap.size, 3, none⟩ = some (.int .i64 vk) ∧ w5.cell? ⟨w.heap.size, 4, none⟩ = some (.int .i64 vi) ∧ w5.cell? ⟨w.heap.size, 5, none⟩ = some (.string vs) ∧ Hid (Below w.heap.size w w5) := keepP6 hb ⟨c0, c1, c2, c3, c4, c5, HB⟩
  clear c0 c1 c2 c3 c4 c5 HB hb
  obtain ⟨c0, c1, c2, c3, c4, c5, HB⟩ := HS
  go_wp2_with fail
  refine (p14Place _ n hp2 _).mono ?_
  rintro e w6 ⟨rfl, hb⟩
  have HS : w6.cell? ⟨w.heap.size, 0, none⟩ = some (.int .i64 4) ∧ w6.cell? ⟨w.heap.size, 1, none⟩ = some (.int .i64 c) ∧ w6.cell? ⟨w.heap.size, 2, none⟩ = some (.int .i64 o) ∧ w6.cell? ⟨w.heap.size, 3, none⟩ = some (.int .i64 vk) ∧ w6.cell? ⟨w.heap.size, 4, none⟩ = some (.int .i64 vi) ∧ w6.cell? ⟨w.heap.size, 5, none⟩ = some (.string vs) ∧ Hid (Below w.heap.size w w6) := keepP6 hb ⟨c0, c1, c2, c3, c4, c5, HB⟩
  clear c0 c1 c2 c3 c4 c5 HB hb
  obtain ⟨c0, c1, c2, c3, c4, c5, HB⟩ := HS
  go_wp2
  go_ret
  exact ⟨by rw [HE.out]; rfl, HB.out⟩

set_option maxRecDepth 100000 in
set_option maxHeartbeats 4000000 in
theorem rPred4_true (x : PPr) (a : Option Addr) (n cap : Nat) (ts : List Int) (w : World) (hn : ts.length = n) (h4 : n ≤ 65536) (hr : RdI .i64 w a ts) (hk : x.kind = 4) (hp : placeB x.col n = true) (hp2 : placeB x.other n = true) (hne : atI ts x.other = atI ts x.col) :
    Calls Try.prog 12 #[.agg (cellsP x), .slice a n cap] w fun e w' => e = .returned (.int .i64 (chkP x ts)) ∧ Below w.heap.size w w' := by
  have HN : Hid (ts.length = n) := hn
  have HR : Hid (RdI .i64 w a ts) := hr
  clear hn hr
  have hh : hasB x n = true := by simp [hasB, hp, hp2]
  have hv : askV x.kind = false := by rw [hk]; rfl
  have ho : askO x.kind = true := by rw [hk]; rfl
  have HE : Hid (chkP x ts = if atI ts x.other = atI ts x.col then 0 else 10) := chkP_oth (by rw [hk]; rfl) (by rw [HN.out]; exact hh) hv ho
  obtain ⟨i, hi, hin⟩ := has_col hh
  have hil : i < ts.length := by rw [HN.out]; exact hin
  obtain ⟨b, off, rfl, hc⟩ := HR.out (by omega)
  have y0 := hc i hil
  rw [hi, atI_nat ts i hil] at hne
  have HE := HE.out
  rw [hi, atI_nat ts i hil] at HE
  have i0 : (0 : Int) ≤ (i : Int) := by omega
  have i1 : (i : Int) < (n : Int) := by omega
  obtain ⟨j, hj, hjn⟩ := has_oth hh ho
  have hjl : j < ts.length := by rw [HN.out]; exact hjn
  have z0 := hc j hjl
  rw [hj, atI_nat ts j hjl] at HE hne
  have j0 : (0 : Int) ≤ (j : Int) := by omega
  have j1 : (j : Int) < (n : Int) := by omega
  generalize ts[i] = ty at *
  generalize ts[j] = tz at *
  clear hc hil hjl HR hh hv ho
  rw [if_pos hne] at HE
  subst tz
  have HE : Hid (chkP x ts = 0) := HE
  obtain ⟨k, c, o, vk, vi, vs⟩ := x
  try simp only at hk hp hp2 hi hj
  simp only [cellsP]
  subst hi
  subst hj
  subst hk
  have ew := wrap_less n h4
  have ew2 : wrap64 ((n : Int) - 1) = (n : Int) - 1 := IntWalk.wrap64_in _ ⟨by omega, by omega⟩
  go_enter Try.func12, Try.ntmps12
  go_wp2_with fail
  refine (p14In_any _ _ _ _).mono ?_
  rintro e w4 ⟨rfl, hb⟩
  rw [show (decide ((1 : Int) ≤ 4) && decide ((4 : Int) ≤ 6)) = true from by decide]
  obtain ⟨c0, c1, c2, c3, c4, c5⟩ := box6 hb
  have HB : Hid (Below w.heap.size w w4) := chain (alloc_below _ _) hb
  clear hb
  go_wp2_with fail
  refine (p14Place _ n hp _).mono ?_
  rintro e w5 ⟨rfl, hb⟩
  have HS : w5.cell? ⟨w.heap.size, 0, none⟩ = some (.int .i64 4) ∧ w5.cell? ⟨w.heap.size, 1, none⟩ = some (.int .i64 i) ∧ w5.cell? ⟨w.heap.size, 2, none⟩ = some (.int .i64 j) ∧ w5.cell? ⟨w.heap.size, 3, none⟩ = some (.int .i64 vk) ∧ w5.cell? ⟨w.heap.size, 4, none⟩ = some (.int .i64 vi) ∧ w5.cell? ⟨w.heap.size, 5, none⟩ = some (.string vs) ∧ Hid (Below w.heap.size w w5) := keepP6 hb ⟨c0, c1, c2, c3, c4, c5, HB⟩
  clear c0 c1 c2 c3 c4 c5 HB hb
  obtain ⟨c0, c1, c2, c3, c4, c5, HB⟩ := HS
  go_wp2_with fail
  refine (p14Place _ n hp2 _).mono ?_
  rintro e w6 ⟨rfl, hb⟩
  have HS : w6.cell? ⟨w.heap.size, 0, none⟩ = some (.int .i64 4) ∧ w6.cell? ⟨w.heap.size, 1, none⟩ = some (.int .i64 i) ∧ w6.cell? ⟨w.heap.size, 2, none⟩ = some (.int .i64 j) ∧ w6.cell? ⟨w.heap.size, 3, none⟩ = some (.int .i64 vk) ∧ w6.cell? ⟨w.heap.size, 4, none⟩ = some (.int .i64 vi) ∧ w6.cell? ⟨w.heap.size, 5, none⟩ = some (.string vs) ∧ Hid (Below w.heap.size w w6) := keepP6 hb ⟨c0, c1, c2, c3, c4, c5, HB⟩
  clear c0 c1 c2 c3 c4 c5 HB hb
  obtain ⟨c0, c1, c2, c3, c4, c5, HB⟩ := HS
  go_upto_region 5 with fail
  have HS : w6.cell? ⟨w.heap.size, 0, none⟩ = some (.int .i64 4) ∧ w6.cell? ⟨w.heap.size, 1, none⟩ = some (.int .i64 i) ∧ w6.cell? ⟨w.heap.size, 2, none⟩ = some (.int .i64 j) ∧ w6.cell? ⟨w.heap.size, 3, none⟩ = some (.int .i64 vk) ∧ w6.cell? ⟨w.heap.size, 4, none⟩ = some (.int .i64 vi) ∧ w6.cell? ⟨w.heap.size, 5, none⟩ = some (.string vs) ∧ w6.cell? ⟨b, off + i, none⟩ = some (.int .i64 ty) ∧ w6.cell? ⟨b, off + j, none⟩ = some (.int .i64 ty) ∧ Hid (Below w.heap.size w w6) := ⟨c0, c1, c2, c3, c4, c5, cell_later HB.out y0, cell_later HB.out z0, HB⟩
  have HS : w6.drew.cell? ⟨w.heap.size, 0, none⟩ = some (.int .i64 4) ∧ w6.drew.cell? ⟨w.heap.size, 1, none⟩ = some (.int .i64 i) ∧ w6.drew.cell? ⟨w.heap.size, 2, none⟩ = some (.int .i64 j) ∧ w6.drew.cell? ⟨w.heap.size, 3, none⟩ = some (.int .i64 vk) ∧ w6.drew.cell? ⟨w.heap.size, 4, none⟩ = some (.int .i64 vi) ∧ w6.drew.cell? ⟨w.heap.size, 5, none⟩ = some (.string vs) ∧ w6.drew.cell? ⟨b, off + i, none⟩ = some (.int .i64 ty) ∧ w6.drew.cell? ⟨b, off + j, none⟩ = some (.int .i64 ty) ∧ Hid (Below w.heap.size w w6.drew) := keepP8 (Below.refl _ _).drew HS
  clear c0 c1 c2 c3 c4 c5 y0 z0 HB
  refine wp_region_held_drew (S := (fun w' => w'.cell? ⟨w.heap.size, 0, none⟩ = some (.int .i64 4) ∧ w'.cell? ⟨w.heap.size, 1, none⟩ = some (.int .i64 i) ∧ w'.cell? ⟨w.heap.size, 2, none⟩ = some (.int .i64 j) ∧ w'.cell? ⟨w.heap.size, 3, none⟩ = some (.int .i64 vk) ∧ w'.cell? ⟨w.heap.size, 4, none⟩ = some (.int .i64 vi) ∧ w'.cell? ⟨w.heap.size, 5, none⟩ = some (.string vs) ∧ w'.cell? ⟨b, off + i, none⟩ = some (.int .i64 ty) ∧ w'.cell? ⟨b, off + j, none⟩ = some (.int .i64 ty) ∧ Hid (Below w.heap.size w w'))) (by kernel_rfl) HS (fun hHeld => ?_)
  refine heldTake (v := ?_) 0 57 rfl rfl (by kernel_rfl) (by kernel_rfl) (by kernel_rfl) (fun _ _ _ h => h) (by rfl) (fun w hSw => ?_) (by assumption) ?_
  rotate_left
  · (try dsimp only at hSw); first | (go_simp; done) | (go_simp; with_reducible rfl)
  simp only [List.setIfInBounds_toArray, List.set_cons_zero, List.set_cons_succ]
  refine heldTake (v := ?_) 1 58 rfl rfl (by kernel_rfl) (by kernel_rfl) (by kernel_rfl) (fun _ _ _ h => h) (by rfl) (fun w hSw => ?_) (by assumption) ?_
  rotate_left
  · (try dsimp only at hSw); first | (go_simp; done) | (go_simp; with_reducible rfl)
  simp only [List.setIfInBounds_toArray, List.set_cons_zero, List.set_cons_succ]
  refine heldSkip 2 59 rfl rfl (by kernel_rfl) (by kernel_rfl) (by kernel_rfl) (fun _ _ _ h => h) (by rfl) (by assumption) ?_
  simp only [List.setIfInBounds_toArray, List.set_cons_zero, List.set_cons_succ]
  refine heldSkip 3 60 rfl rfl (by kernel_rfl) (by kernel_rfl) (by kernel_rfl) (fun _ _ _ h => h) (by rfl) (by assumption) ?_
  simp only [List.setIfInBounds_toArray, List.set_cons_zero, List.set_cons_succ]
  refine heldSkip 4 61 rfl rfl (by kernel_rfl) (by kernel_rfl) (by kernel_rfl) (fun _ _ _ h => h) (by rfl) (by assumption) ?_
  simp only [List.setIfInBounds_toArray, List.set_cons_zero, List.set_cons_succ]
  refine heldSkip 5 62 rfl rfl (by kernel_rfl) (by kernel_rfl) (by kernel_rfl) (fun _ _ _ h => h) (by rfl) (by assumption) ?_
  simp only [List.setIfInBounds_toArray, List.set_cons_zero, List.set_cons_succ]
  refine heldSkip 6 63 rfl rfl (by kernel_rfl) (by kernel_rfl) (by kernel_rfl) (fun _ _ _ h => h) (by rfl) (by assumption) ?_
  simp only [List.setIfInBounds_toArray, List.set_cons_zero, List.set_cons_succ]
  refine heldSkip 7 64 rfl rfl (by kernel_rfl) (by kernel_rfl) (by kernel_rfl) (fun _ _ _ h => h) (by rfl) (by assumption) ?_
  simp only [List.setIfInBounds_toArray, List.set_cons_zero, List.set_cons_succ]
  refine heldSkip 8 65 rfl rfl (by kernel_rfl) (by kernel_rfl) (by kernel_rfl) (fun _ _ _ h => h) (by rfl) (by assumption) ?_
  simp only [List.setIfInBounds_toArray, List.set_cons_zero, List.set_cons_succ]
  refine heldSkip 9 66 rfl rfl (by kernel_rfl) (by kernel_rfl) (by kernel_rfl) (fun _ _ _ h => h) (by rfl) (by assumption) ?_
  simp only [List.setIfInBounds_toArray, List.set_cons_zero, List.set_cons_succ]
  refine heldSkip 10 67 rfl rfl (by kernel_rfl) (by kernel_rfl) (by kernel_rfl) (fun _ _ _ h => h) (by rfl) (by assumption) ?_
  simp only [List.setIfInBounds_toArray, List.set_cons_zero, List.set_cons_succ]
  refine heldTake (v := ?_) 11 68 rfl rfl (by kernel_rfl) (by kernel_rfl) (by kernel_rfl) (fun _ _ _ h => h) (by rfl) (fun w hSw => ?_) (by assumption) ?_
  rotate_left
  · (try dsimp only at hSw); first | (go_simp; done) | (go_simp; with_reducible rfl)
  simp only [List.setIfInBounds_toArray, List.set_cons_zero, List.set_cons_succ]
  refine heldTake (v := ?_) 12 69 rfl rfl (by kernel_rfl) (by kernel_rfl) (by kernel_rfl) (fun _ _ _ h => h) (by rfl) (fun w hSw => ?_) (by assumption) ?_
  rotate_left
  · (try dsimp only at hSw); first | (go_simp; done) | (go_simp; with_reducible rfl)
  simp only [List.setIfInBounds_toArray, List.set_cons_zero, List.set_cons_succ]
  refine heldTake (v := ?_) 13 70 rfl rfl (by kernel_rfl) (by kernel_rfl) (by kernel_rfl) (fun _ _ _ h => h) (by rfl) (fun w hSw => ?_) (by assumption) ?_
  rotate_left
  · (try dsimp only at hSw); first | (go_simp; done) | (go_simp; with_reducible rfl)
  simp only [List.setIfInBounds_toArray, List.set_cons_zero, List.set_cons_succ]
  refine heldTake (v := ?_) 14 71 rfl rfl (by kernel_rfl) (by kernel_rfl) (by kernel_rfl) (fun _ _ _ h => h) (by rfl) (fun w hSw => ?_) (by assumption) ?_
  rotate_left
  · (try dsimp only at hSw); first | (go_simp; done) | (go_simp; with_reducible rfl)
  simp only [List.setIfInBounds_toArray, List.set_cons_zero, List.set_cons_succ]
  refine heldTake (v := ?_) 15 72 rfl rfl (by kernel_rfl) (by kernel_rfl) (by kernel_rfl) (fun _ _ _ h => h) (by rfl) (fun w hSw => ?_) (by assumption) ?_
  rotate_left
  · (try dsimp only at hSw); first | (go_simp; done) | (go_simp; with_reducible rfl)
  simp only [List.setIfInBounds_toArray, List.set_cons_zero, List.set_cons_succ]
  refine heldTake (v := ?_) 16 73 rfl rfl (by kernel_rfl) (by kernel_rfl) (by kernel_rfl) (fun _ _ _ h => h) (by rfl) (fun w hSw => ?_) (by assumption) ?_
  rotate_left
  · (try dsimp only at hSw); first | (go_simp; done) | (go_simp; with_reducible rfl)
  simp only [List.setIfInBounds_toArray, List.set_cons_zero, List.set_cons_succ]
  refine heldTake (v := ?_) 17 74 rfl rfl (by kernel_rfl) (by kernel_rfl) (by kernel_rfl) (fun _ _ _ h => h) (by rfl) (fun w hSw => ?_) (by assumption) ?_
  rotate_left
  · (try dsimp only at hSw); first | (go_simp; done) | (go_simp; with_reducible rfl)
  simp only [List.setIfInBounds_toArray, List.set_cons_zero, List.set_cons_succ]
  refine heldTake (v := ?_) 18 75 rfl rfl (by kernel_rfl) (by kernel_rfl) (by kernel_rfl) (fun _ _ _ h => h) (by rfl) (fun w hSw => ?_) (by assumption) ?_
  rotate_left
  · (try dsimp only at hSw); first | (go_simp; done) | (go_simp; with_reducible rfl)
  simp only [List.setIfInBounds_toArray, List.set_cons_zero, List.set_cons_succ]
  refine heldTake (v := ?_) 19 76 rfl rfl (by kernel_rfl) (by kernel_rfl) (by kernel_rfl) (fun _ _ _ h => h) (by rfl) (fun w hSw => ?_) (by assumption) ?_
  rotate_left
  · (try dsimp only at hSw); first | (go_simp; done) | (go_simp; with_reducible rfl)
  simp only [List.setIfInBounds_toArray, List.set_cons_zero, List.set_cons_succ]
  refine heldTake (v := ?_) 20 77 rfl rfl (by kernel_rfl) (by kernel_rfl) (by kernel_rfl) (fun _ _ _ h => h) (by rfl) (fun w hSw => ?_) (by assumption) ?_
  rotate_left
  · (try dsimp only at hSw); first | (go_simp; done) | (go_simp; with_reducible rfl)
  simp only [List.setIfInBounds_toArray, List.set_cons_zero, List.set_cons_succ]
  refine heldTake (v := ?_) 21 78 rfl rfl (by kernel_rfl) (by kernel_rfl) (by kernel_rfl) (fun _ _ _ h => h) (by rfl) (fun w hSw => ?_) (by assumption) ?_
  rotate_left
  · (try dsimp only at hSw); first | (go_simp; done) | (go_simp; with_reducible rfl)
  simp only [List.setIfInBounds_toArray, List.set_cons_zero, List.set_cons_succ]
  refine heldTake (v := ?_) 22 79 rfl rfl (by kernel_rfl) (by kernel_rfl) (by kernel_rfl) (fun _ _ _ h => h) (by rfl) (fun w hSw => ?_) (by assumption) ?_
  rotate_left
  · (try dsimp only at hSw); first | (go_simp; done) | (go_simp; with_reducible rfl)
  simp only [List.setIfInBounds_toArray, List.set_cons_zero, List.set_cons_succ]
  refine heldTake (v := ?_) 23 80 rfl rfl (by kernel_rfl) (by kernel_rfl) (by kernel_rfl) (fun _ _ _ h => h) (by rfl) (fun w hSw => ?_) (by assumption) ?_
  rotate_left
  · (try dsimp only at hSw); first | (go_simp; done) | (go_simp; with_reducible rfl)
  simp only [List.setIfInBounds_toArray, List.set_cons_zero, List.set_cons_succ]
  refine heldTake (v := ?_) 24 81 rfl rfl (by kernel_rfl) (by kernel_rfl) (by kernel_rfl) (fun _ _ _ h => h) (by rfl) (fun w hSw => ?_) (by assumption) ?_
  rotate_left
  · (try dsimp only at hSw); first | (go_simp; done) | (go_simp; with_reducible rfl)
  simp only [List.setIfInBounds_toArray, List.set_cons_zero, List.set_cons_succ]
  refine heldTake (v := ?_) 25 82 rfl rfl (by kernel_rfl) (by kernel_rfl) (by kernel_rfl) (fun _ _ _ h => h) (by rfl) (fun w hSw => ?_) (by assumption) ?_
  rotate_left
  · (try dsimp only at hSw); first | (go_simp; done) | (go_simp; with_reducible rfl)
  simp only [List.setIfInBounds_toArray, List.set_cons_zero, List.set_cons_succ]
  refine heldTake (v := ?_) 26 83 rfl rfl (by kernel_rfl) (by kernel_rfl) (by kernel_rfl) (fun _ _ _ h => h) (by rfl) (fun w hSw => ?_) (by assumption) ?_
  rotate_left
  · (try dsimp only at hSw); first | (go_simp; done) | (go_simp; with_reducible rfl)
  simp only [List.setIfInBounds_toArray, List.set_cons_zero, List.set_cons_succ]
  refine heldTake (v := ?_) 27 84 rfl rfl (by kernel_rfl) (by kernel_rfl) (by kernel_rfl) (fun _ _ _ h => h) (by rfl) (fun w hSw => ?_) (by assumption) ?_
  rotate_left
  · (try dsimp only at hSw); first | (go_simp; done) | (go_simp; with_reducible rfl)
  simp only [List.setIfInBounds_toArray, List.set_cons_zero, List.set_cons_succ]
  refine wpAnyH_done (by kernel_rfl) ?_ _
  have HB9 : Hid (Below w.heap.size w _) := hHeld.2.2.2.2.2.2.2.2
  clear hHeld HS
  go_wp2
  go_ret
  exact ⟨by rw [HE.out]; rfl, HB9.out⟩

set_option maxRecDepth 100000 in
set_option maxHeartbeats 4000000 in
theorem rPred4_false (x : PPr) (a : Option Addr) (n cap : Nat) (ts : List Int) (w : World) (hn : ts.length = n) (h4 : n ≤ 65536) (hr : RdI .i64 w a ts) (hk : x.kind = 4) (hp : placeB x.col n = true) (hp2 : placeB x.other n = true) (hne : atI ts x.other ≠ atI ts x.col) :
    Calls Try.prog 12 #[.agg (cellsP x), .slice a n cap] w fun e w' => e = .returned (.int .i64 (chkP x ts)) ∧ Below w.heap.size w w' := by
  have HN : Hid (ts.length = n) := hn
  have HR : Hid (RdI .i64 w a ts) := hr
  clear hn hr
  have hh : hasB x n = true := by simp [hasB, hp, hp2]
  have hv : askV x.kind = false := by rw [hk]; rfl
  have ho : askO x.kind = true := by rw [hk]; rfl
  have HE : Hid (chkP x ts = if atI ts x.other = atI ts x.col then 0 else 10) := chkP_oth (by rw [hk]; rfl) (by rw [HN.out]; exact hh) hv ho
  obtain ⟨i, hi, hin⟩ := has_col hh
  have hil : i < ts.length := by rw [HN.out]; exact hin
  obtain ⟨b, off, rfl, hc⟩ := HR.out (by omega)
  have y0 := hc i hil
  rw [hi, atI_nat ts i hil] at hne
  have HE := HE.out
  rw [hi, atI_nat ts i hil] at HE
  have i0 : (0 : Int) ≤ (i : Int) := by omega
  have i1 : (i : Int) < (n : Int) := by omega
  obtain ⟨j, hj, hjn⟩ := has_oth hh ho
  have hjl : j < ts.length := by rw [HN.out]; exact hjn
  have z0 := hc j hjl
  rw [hj, atI_nat ts j hjl] at HE hne
  have j0 : (0 : Int) ≤ (j : Int) := by omega
  have j1 : (j : Int) < (n : Int) := by omega
  generalize ts[i] = ty at *
  generalize ts[j] = tz at *
  clear hc hil hjl HR hh hv ho
  rw [if_neg hne] at HE
  have HE : Hid (chkP x ts = 10) := HE
  obtain ⟨k, c, o, vk, vi, vs⟩ := x
  try simp only at hk hp hp2 hi hj
  simp only [cellsP]
  subst hi
  subst hj
  subst hk
  have ew := wrap_less n h4
  have ew2 : wrap64 ((n : Int) - 1) = (n : Int) - 1 := IntWalk.wrap64_in _ ⟨by omega, by omega⟩
  go_enter Try.func12, Try.ntmps12
  go_wp2_with fail
  refine (p14In_any _ _ _ _).mono ?_
  rintro e w4 ⟨rfl, hb⟩
  rw [show (decide ((1 : Int) ≤ 4) && decide ((4 : Int) ≤ 6)) = true from by decide]
  obtain ⟨c0, c1, c2, c3, c4, c5⟩ := box6 hb
  have HB : Hid (Below w.heap.size w w4) := chain (alloc_below _ _) hb
  clear hb
  go_wp2_with fail
  refine (p14Place _ n hp _).mono ?_
  rintro e w5 ⟨rfl, hb⟩
  have HS : w5.cell? ⟨w.heap.size, 0, none⟩ = some (.int .i64 4) ∧ w5.cell? ⟨w.heap.size, 1, none⟩ = some (.int .i64 i) ∧ w5.cell? ⟨w.heap.size, 2, none⟩ = some (.int .i64 j) ∧ w5.cell? ⟨w.heap.size, 3, none⟩ = some (.int .i64 vk) ∧ w5.cell? ⟨w.heap.size, 4, none⟩ = some (.int .i64 vi) ∧ w5.cell? ⟨w.heap.size, 5, none⟩ = some (.string vs) ∧ Hid (Below w.heap.size w w5) := keepP6 hb ⟨c0, c1, c2, c3, c4, c5, HB⟩
  clear c0 c1 c2 c3 c4 c5 HB hb
  obtain ⟨c0, c1, c2, c3, c4, c5, HB⟩ := HS
  go_wp2_with fail
  refine (p14Place _ n hp2 _).mono ?_
  rintro e w6 ⟨rfl, hb⟩
  have HS : w6.cell? ⟨w.heap.size, 0, none⟩ = some (.int .i64 4) ∧ w6.cell? ⟨w.heap.size, 1, none⟩ = some (.int .i64 i) ∧ w6.cell? ⟨w.heap.size, 2, none⟩ = some (.int .i64 j) ∧ w6.cell? ⟨w.heap.size, 3, none⟩ = some (.int .i64 vk) ∧ w6.cell? ⟨w.heap.size, 4, none⟩ = some (.int .i64 vi) ∧ w6.cell? ⟨w.heap.size, 5, none⟩ = some (.string vs) ∧ Hid (Below w.heap.size w w6) := keepP6 hb ⟨c0, c1, c2, c3, c4, c5, HB⟩
  clear c0 c1 c2 c3 c4 c5 HB hb
  obtain ⟨c0, c1, c2, c3, c4, c5, HB⟩ := HS
  go_upto_region 5 with fail
  have HS : w6.cell? ⟨w.heap.size, 0, none⟩ = some (.int .i64 4) ∧ w6.cell? ⟨w.heap.size, 1, none⟩ = some (.int .i64 i) ∧ w6.cell? ⟨w.heap.size, 2, none⟩ = some (.int .i64 j) ∧ w6.cell? ⟨w.heap.size, 3, none⟩ = some (.int .i64 vk) ∧ w6.cell? ⟨w.heap.size, 4, none⟩ = some (.int .i64 vi) ∧ w6.cell? ⟨w.heap.size, 5, none⟩ = some (.string vs) ∧ w6.cell? ⟨b, off + i, none⟩ = some (.int .i64 ty) ∧ w6.cell? ⟨b, off + j, none⟩ = some (.int .i64 tz) ∧ Hid (Below w.heap.size w w6) := ⟨c0, c1, c2, c3, c4, c5, cell_later HB.out y0, cell_later HB.out z0, HB⟩
  have HS : w6.drew.cell? ⟨w.heap.size, 0, none⟩ = some (.int .i64 4) ∧ w6.drew.cell? ⟨w.heap.size, 1, none⟩ = some (.int .i64 i) ∧ w6.drew.cell? ⟨w.heap.size, 2, none⟩ = some (.int .i64 j) ∧ w6.drew.cell? ⟨w.heap.size, 3, none⟩ = some (.int .i64 vk) ∧ w6.drew.cell? ⟨w.heap.size, 4, none⟩ = some (.int .i64 vi) ∧ w6.drew.cell? ⟨w.heap.size, 5, none⟩ = some (.string vs) ∧ w6.drew.cell? ⟨b, off + i, none⟩ = some (.int .i64 ty) ∧ w6.drew.cell? ⟨b, off + j, none⟩ = some (.int .i64 tz) ∧ Hid (Below w.heap.size w w6.drew) := keepP8 (Below.refl _ _).drew HS
  clear c0 c1 c2 c3 c4 c5 y0 z0 HB
  have ne1 : (tz != ty) = true := by simpa using hne
  have ne2 : (tz = ty) = False := eq_false hne
  clear hne
  refine wp_region_held_drew (S := (fun w' => w'.cell? ⟨w.heap.size, 0, none⟩ = some (.int .i64 4) ∧ w'.cell? ⟨w.heap.size, 1, none⟩ = some (.int .i64 i) ∧ w'.cell? ⟨w.heap.size, 2, none⟩ = some (.int .i64 j) ∧ w'.cell? ⟨w.heap.size, 3, none⟩ = some (.int .i64 vk) ∧ w'.cell? ⟨w.heap.size, 4, none⟩ = some (.int .i64 vi) ∧ w'.cell? ⟨w.heap.size, 5, none⟩ = some (.string vs) ∧ w'.cell? ⟨b, off + i, none⟩ = some (.int .i64 ty) ∧ w'.cell? ⟨b, off + j, none⟩ = some (.int .i64 tz) ∧ Hid (Below w.heap.size w w'))) (by kernel_rfl) HS (fun hHeld => ?_)
  refine heldTake (v := ?_) 0 57 rfl rfl (by kernel_rfl) (by kernel_rfl) (by kernel_rfl) (fun _ _ _ h => h) (by rfl) (fun w hSw => ?_) (by assumption) ?_
  rotate_left
  · (try dsimp only at hSw); first | (go_simp; done) | (go_simp; with_reducible rfl)
  simp only [List.setIfInBounds_toArray, List.set_cons_zero, List.set_cons_succ]
  refine heldTake (v := ?_) 1 58 rfl rfl (by kernel_rfl) (by kernel_rfl) (by kernel_rfl) (fun _ _ _ h => h) (by rfl) (fun w hSw => ?_) (by assumption) ?_
  rotate_left
  · (try dsimp only at hSw); first | (go_simp; done) | (go_simp; with_reducible rfl)
  simp only [List.setIfInBounds_toArray, List.set_cons_zero, List.set_cons_succ]
  refine heldSkip 2 59 rfl rfl (by kernel_rfl) (by kernel_rfl) (by kernel_rfl) (fun _ _ _ h => h) (by rfl) (by assumption) ?_
  simp only [List.setIfInBounds_toArray, List.set_cons_zero, List.set_cons_succ]
  refine heldSkip 3 60 rfl rfl (by kernel_rfl) (by kernel_rfl) (by kernel_rfl) (fun _ _ _ h => h) (by rfl) (by assumption) ?_
  simp only [List.setIfInBounds_toArray, List.set_cons_zero, List.set_cons_succ]
  refine heldSkip 4 61 rfl rfl (by kernel_rfl) (by kernel_rfl) (by kernel_rfl) (fun _ _ _ h => h) (by rfl) (by assumption) ?_
  simp only [List.setIfInBounds_toArray, List.set_cons_zero, List.set_cons_succ]
  refine heldSkip 5 62 rfl rfl (by kernel_rfl) (by kernel_rfl) (by kernel_rfl) (fun _ _ _ h => h) (by rfl) (by assumption) ?_
  simp only [List.setIfInBounds_toArray, List.set_cons_zero, List.set_cons_succ]
  refine heldSkip 6 63 rfl rfl (by kernel_rfl) (by kernel_rfl) (by kernel_rfl) (fun _ _ _ h => h) (by rfl) (by assumption) ?_
  simp only [List.setIfInBounds_toArray, List.set_cons_zero, List.set_cons_succ]
  refine heldSkip 7 64 rfl rfl (by kernel_rfl) (by kernel_rfl) (by kernel_rfl) (fun _ _ _ h => h) (by rfl) (by assumption) ?_
  simp only [List.setIfInBounds_toArray, List.set_cons_zero, List.set_cons_succ]
  refine heldSkip 8 65 rfl rfl (by kernel_rfl) (by kernel_rfl) (by kernel_rfl) (fun _ _ _ h => h) (by rfl) (by assumption) ?_
  simp only [List.setIfInBounds_toArray, List.set_cons_zero, List.set_cons_succ]
  refine heldSkip 9 66 rfl rfl (by kernel_rfl) (by kernel_rfl) (by kernel_rfl) (fun _ _ _ h => h) (by rfl) (by assumption) ?_
  simp only [List.setIfInBounds_toArray, List.set_cons_zero, List.set_cons_succ]
  refine heldSkip 10 67 rfl rfl (by kernel_rfl) (by kernel_rfl) (by kernel_rfl) (fun _ _ _ h => h) (by rfl) (by assumption) ?_
  simp only [List.setIfInBounds_toArray, List.set_cons_zero, List.set_cons_succ]
  refine heldTake (v := ?_) 11 68 rfl rfl (by kernel_rfl) (by kernel_rfl) (by kernel_rfl) (fun _ _ _ h => h) (by rfl) (fun w hSw => ?_) (by assumption) ?_
  rotate_left
  · (try dsimp only at hSw); first | (go_simp; done) | (go_simp; with_reducible rfl)
  simp only [List.setIfInBounds_toArray, List.set_cons_zero, List.set_cons_succ]
  refine heldTake (v := ?_) 12 69 rfl rfl (by kernel_rfl) (by kernel_rfl) (by kernel_rfl) (fun _ _ _ h => h) (by rfl) (fun w hSw => ?_) (by assumption) ?_
  rotate_left
  · (try dsimp only at hSw); first | (go_simp; done) | (go_simp; with_reducible rfl)
  simp only [List.setIfInBounds_toArray, List.set_cons_zero, List.set_cons_succ]
  refine heldTake (v := ?_) 13 70 rfl rfl (by kernel_rfl) (by kernel_rfl) (by kernel_rfl) (fun _ _ _ h => h) (by rfl) (fun w hSw => ?_) (by assumption) ?_
  rotate_left
  · (try dsimp only at hSw); first | (go_simp; done) | (go_simp; with_reducible rfl)
  simp only [List.setIfInBounds_toArray, List.set_cons_zero, List.set_cons_succ]
  refine heldTake (v := ?_) 14 71 rfl rfl (by kernel_rfl) (by kernel_rfl) (by kernel_rfl) (fun _ _ _ h => h) (by rfl) (fun w hSw => ?_) (by assumption) ?_
  rotate_left
  · (try dsimp only at hSw); first | (go_simp; done) | (go_simp; with_reducible rfl)
  simp only [List.setIfInBounds_toArray, List.set_cons_zero, List.set_cons_succ]
  refine heldTake (v := ?_) 15 72 rfl rfl (by kernel_rfl) (by kernel_rfl) (by kernel_rfl) (fun _ _ _ h => h) (by rfl) (fun w hSw => ?_) (by assumption) ?_
  rotate_left
  · (try dsimp only at hSw); first | (go_simp; done) | (go_simp; with_reducible rfl)
  simp only [List.setIfInBounds_toArray, List.set_cons_zero, List.set_cons_succ]
  refine heldTake (v := ?_) 16 73 rfl rfl (by kernel_rfl) (by kernel_rfl) (by kernel_rfl) (fun _ _ _ h => h) (by rfl) (fun w hSw => ?_) (by assumption) ?_
  rotate_left
  · (try dsimp only at hSw); first | (go_simp; done) | (go_simp; with_reducible rfl)
  simp only [List.setIfInBounds_toArray, List.set_cons_zero, List.set_cons_succ]
  refine heldTake (v := ?_) 17 74 rfl rfl (by kernel_rfl) (by kernel_rfl) (by kernel_rfl) (fun _ _ _ h => h) (by rfl) (fun w hSw => ?_) (by assumption) ?_
  rotate_left
  · (try dsimp only at hSw); first | (go_simp; done) | (go_simp; with_reducible rfl)
  simp only [List.setIfInBounds_toArray, List.set_cons_zero, List.set_cons_succ]
  refine heldTake (v := ?_) 18 75 rfl rfl (by kernel_rfl) (by kernel_rfl) (by kernel_rfl) (fun _ _ _ h => h) (by rfl) (fun w hSw => ?_) (by assumption) ?_
  rotate_left
  · (try dsimp only at hSw); first | (go_simp; done) | (go_simp; with_reducible rfl)
  simp only [List.setIfInBounds_toArray, List.set_cons_zero, List.set_cons_succ]
  refine heldTake (v := ?_) 19 76 rfl rfl (by kernel_rfl) (by kernel_rfl) (by kernel_rfl) (fun _ _ _ h => h) (by rfl) (fun w hSw => ?_) (by assumption) ?_
  rotate_left
  · (try dsimp only at hSw); first | (go_simp; done) | (go_simp; with_reducible rfl)
  simp only [List.setIfInBounds_toArray, List.set_cons_zero, List.set_cons_succ]
  refine heldTake (v := ?_) 20 77 rfl rfl (by kernel_rfl) (by kernel_rfl) (by kernel_rfl) (fun _ _ _ h => h) (by rfl) (fun w hSw => ?_) (by assumption) ?_
  rotate_left
  · (try dsimp only at hSw); first | (go_simp; done) | (go_simp; with_reducible rfl)
  simp only [List.setIfInBounds_toArray, List.set_cons_zero, List.set_cons_succ]
  refine heldTake (v := ?_) 21 78 rfl rfl (by kernel_rfl) (by kernel_rfl) (by kernel_rfl) (fun _ _ _ h => h) (by rfl) (fun w hSw => ?_) (by assumption) ?_
  rotate_left
  · (try dsimp only at hSw); first | (go_simp; done) | (go_simp; with_reducible rfl)
  simp only [List.setIfInBounds_toArray, List.set_cons_zero, List.set_cons_succ]
  refine heldTake (v := ?_) 22 79 rfl rfl (by kernel_rfl) (by kernel_rfl) (by kernel_rfl) (fun _ _ _ h => h) (by rfl) (fun w hSw => ?_) (by assumption) ?_
  rotate_left
  · (try dsimp only at hSw); first | (go_simp; done) | (go_simp; with_reducible rfl)
  simp only [List.setIfInBounds_toArray, List.set_cons_zero, List.set_cons_succ]
  refine heldTake (v := ?_) 23 80 rfl rfl (by kernel_rfl) (by kernel_rfl) (by kernel_rfl) (fun _ _ _ h => h) (by rfl) (fun w hSw => ?_) (by assumption) ?_
  rotate_left
  · (try dsimp only at hSw); first | (go_simp; done) | (go_simp; with_reducible rfl)
  simp only [List.setIfInBounds_toArray, List.set_cons_zero, List.set_cons_succ]
  refine heldTake (v := ?_) 24 81 rfl rfl (by kernel_rfl) (by kernel_rfl) (by kernel_rfl) (fun _ _ _ h => h) (by rfl) (fun w hSw => ?_) (by assumption) ?_
  rotate_left
  · (try dsimp only at hSw); first | (go_simp; done) | (go_simp; with_reducible rfl)
  simp only [List.setIfInBounds_toArray, List.set_cons_zero, List.set_cons_succ]
  refine heldTake (v := ?_) 25 82 rfl rfl (by kernel_rfl) (by kernel_rfl) (by kernel_rfl) (fun _ _ _ h => h) (by rfl) (fun w hSw => ?_) (by assumption) ?_
  rotate_left
  · (try dsimp only at hSw); first | (go_simp; done) | (go_simp; with_reducible rfl)
  simp only [List.setIfInBounds_toArray, List.set_cons_zero, List.set_cons_succ]
  refine heldTake (v := ?_) 26 83 rfl rfl (by kernel_rfl) (by kernel_rfl) (by kernel_rfl) (fun _ _ _ h => h) (by rfl) (fun w hSw => ?_) (by assumption) ?_
  rotate_left
  · (try dsimp only at hSw); first | (go_simp; done) | (go_simp; with_reducible rfl)
  simp only [List.setIfInBounds_toArray, List.set_cons_zero, List.set_cons_succ]
  refine heldTake (v := ?_) 27 84 rfl rfl (by kernel_rfl) (by kernel_rfl) (by kernel_rfl) (fun _ _ _ h => h) (by rfl) (fun w hSw => ?_) (by assumption) ?_
  rotate_left
  · (try dsimp only at hSw); first | (go_simp; done) | (go_simp; with_reducible rfl)
  simp only [List.setIfInBounds_toArray, List.set_cons_zero, List.set_cons_succ]
  refine wpAnyH_done (by kernel_rfl) ?_ _
  have HB9 : Hid (Below w.heap.size w _) := hHeld.2.2.2.2.2.2.2.2
  clear hHeld HS
  go_wp2
  go_ret
  exact ⟨by rw [HE.out]; rfl, HB9.out⟩

set_option maxRecDepth 100000 in
set_option maxHeartbeats 4000000 in
theorem rPred5_col (x : PPr) (a : Option Addr) (n cap : Nat) (ts : List Int) (w : World) (hn : ts.length = n) (h4 : n ≤ 65536) (hr : RdI .i64 w a ts) (hk : x.kind = 5) (hp : placeB x.col n = false) :
    Calls Try.prog 12 #[.agg (cellsP x), .slice a n cap] w fun e w' => e = .returned (.int .i64 (chkP x ts)) ∧ Below w.heap.size w w' := by
  have HN : Hid (ts.length = n) := hn
  have HR : Hid (RdI .i64 w a ts) := hr
  clear hn hr
  have HE : Hid (chkP x ts = 1) := chkP_has (by rw [HN.out]; simp [hasB, hp])
  obtain ⟨k, c, o, vk, vi, vs⟩ := x
  try simp only at hk hp
  simp only [cellsP]
  subst hk
  have ew := wrap_less n h4
  have ew2 : wrap64 ((n : Int) - 1) = (n : Int) - 1 := IntWalk.wrap64_in _ ⟨by omega, by omega⟩
  go_enter Try.func12, Try.ntmps12
  go_wp2_with fail
  refine (p14In_any _ _ _ _).mono ?_
  rintro e w4 ⟨rfl, hb⟩
  rw [show (decide ((1 : Int) ≤ 5) && decide ((5 : Int) ≤ 6)) = true from by decide]
  obtain ⟨c0, c1, c2, c3, c4, c5⟩ := box6 hb
  have HB : Hid (Below w.heap.size w w4) := chain (alloc_below _ _) hb
  clear hb
  go_wp2_with fail
  refine (p14Place _ n hp _).mono ?_
  rintro e w5 ⟨rfl, hb⟩
  have HS : w5.cell? ⟨w.heap.size, 0, none⟩ = some (.int .i64 5) ∧ w5.cell? ⟨w.heap.size, 1, none⟩ = some (.int .i64 c) ∧ w5.cell? ⟨w.heap.size, 2, none⟩ = some (.int .i64 o) ∧ w5.cell? ⟨w.heap.size, 3, none⟩ = some (.int .i64 vk) ∧ w5.cell? ⟨w.heap.size, 4, none⟩ = some (.int .i64 vi) ∧ w5.cell? ⟨w.heap.size, 5, none⟩ = some (.string vs) ∧ Hid (Below w.heap.size w w5) := keepP6 hb ⟨c0, c1, c2, c3, c4, c5, HB⟩
  clear c0 c1 c2 c3 c4 c5 HB hb
  obtain ⟨c0, c1, c2, c3, c4, c5, HB⟩ := HS
  go_wp2
  go_ret
  exact ⟨by rw [HE.out]; rfl, HB.out⟩

set_option maxRecDepth 100000 in
set_option maxHeartbeats 4000000 in
theorem rPred5_one (x : PPr) (a : Option Addr) (n cap : Nat) (ts : List Int) (w : World) (hn : ts.length = n) (h4 : n ≤ 65536) (hr : RdI .i64 w a ts) (hk : x.kind = 5) (hp : placeB x.col n = true) :
    Calls Try.prog 12 #[.agg (cellsP x), .slice a n cap] w fun e w' => e = .returned (.int .i64 (chkP x ts)) ∧ Below w.heap.size w w' := by
  have HN : Hid (ts.length = n) := hn
  have HR : Hid (RdI .i64 w a ts) := hr
  clear hn hr
  have hh : hasB x n = true := by simp [hasB, hp, hk, askO]
  have HE : Hid (chkP x ts = 0) := chkP_one (by rw [hk]; rfl) (by rw [HN.out]; exact hh) (by rw [hk]; rfl) (by rw [hk]; rfl)
  clear hh
  obtain ⟨k, c, o, vk, vi, vs⟩ := x
  try simp only at hk hp
  simp only [cellsP]
  subst hk
  have ew := wrap_less n h4
  have ew2 : wrap64 ((n : Int) - 1) = (n : Int) - 1 := IntWalk.wrap64_in _ ⟨by omega, by omega⟩
  go_enter Try.func12, Try.ntmps12
  go_wp2_with fail
  refine (p14In_any _ _ _ _).mono ?_
  rintro e w4 ⟨rfl, hb⟩
  rw [show (decide ((1 : Int) ≤ 5) && decide ((5 : Int) ≤ 6)) = true from by decide]
  obtain ⟨c0, c1, c2, c3, c4, c5⟩ := box6 hb
  have HB : Hid (Below w.heap.size w w4) := chain (alloc_below _ _) hb
  clear hb
  go_wp2_with fail
  refine (p14Place _ n hp _).mono ?_
  rintro e w5 ⟨rfl, hb⟩
  have HS : w5.cell? ⟨w.heap.size, 0, none⟩ = some (.int .i64 5) ∧ w5.cell? ⟨w.heap.size, 1, none⟩ = some (.int .i64 c) ∧ w5.cell? ⟨w.heap.size, 2, none⟩ = some (.int .i64 o) ∧ w5.cell? ⟨w.heap.size, 3, none⟩ = some (.int .i64 vk) ∧ w5.cell? ⟨w.heap.size, 4, none⟩ = some (.int .i64 vi) ∧ w5.cell? ⟨w.heap.size, 5, none⟩ = some (.string vs) ∧ Hid (Below w.heap.size w w5) := keepP6 hb ⟨c0, c1, c2, c3, c4, c5, HB⟩
  clear c0 c1 c2 c3 c4 c5 HB hb
  obtain ⟨c0, c1, c2, c3, c4, c5, HB⟩ := HS
  go_upto_region 5 with fail
  have HS : w5.drew.cell? ⟨w.heap.size, 0, none⟩ = some (.int .i64 5) ∧ w5.drew.cell? ⟨w.heap.size, 1, none⟩ = some (.int .i64 c) ∧ w5.drew.cell? ⟨w.heap.size, 2, none⟩ = some (.int .i64 o) ∧ w5.drew.cell? ⟨w.heap.size, 3, none⟩ = some (.int .i64 vk) ∧ w5.drew.cell? ⟨w.heap.size, 4, none⟩ = some (.int .i64 vi) ∧ w5.drew.cell? ⟨w.heap.size, 5, none⟩ = some (.string vs) ∧ Hid (Below w.heap.size w w5.drew) := keepP6 (Below.refl _ _).drew ⟨c0, c1, c2, c3, c4, c5, HB⟩
  clear c0 c1 c2 c3 c4 c5 HB
  refine wp_region_held_drew (S := (fun w' => w'.cell? ⟨w.heap.size, 0, none⟩ = some (.int .i64 5) ∧ w'.cell? ⟨w.heap.size, 1, none⟩ = some (.int .i64 c) ∧ w'.cell? ⟨w.heap.size, 2, none⟩ = some (.int .i64 o) ∧ w'.cell? ⟨w.heap.size, 3, none⟩ = some (.int .i64 vk) ∧ w'.cell? ⟨w.heap.size, 4, none⟩ = some (.int .i64 vi) ∧ w'.cell? ⟨w.heap.size, 5, none⟩ = some (.string vs) ∧ Hid (Below w.heap.size w w'))) (by kernel_rfl) HS (fun hHeld => ?_)
  refine heldTake (v := ?_) 0 57 rfl rfl (by kernel_rfl) (by kernel_rfl) (by kernel_rfl) (fun _ _ _ h => h) (by rfl) (fun w hSw => ?_) (by assumption) ?_
  rotate_left
  · (try dsimp only at hSw); first | (go_simp; done) | (go_simp; with_reducible rfl)
  simp only [List.setIfInBounds_toArray, List.set_cons_zero, List.set_cons_succ]
  refine heldTake (v := ?_) 1 58 rfl rfl (by kernel_rfl) (by kernel_rfl) (by kernel_rfl) (fun _ _ _ h => h) (by rfl) (fun w hSw => ?_) (by assumption) ?_
  rotate_left
  · (try dsimp only at hSw); first | (go_simp; done) | (go_simp; with_reducible rfl)
  simp only [List.setIfInBounds_toArray, List.set_cons_zero, List.set_cons_succ]
  refine heldSkip 2 59 rfl rfl (by kernel_rfl) (by kernel_rfl) (by kernel_rfl) (fun _ _ _ h => h) (by rfl) (by assumption) ?_
  simp only [List.setIfInBounds_toArray, List.set_cons_zero, List.set_cons_succ]
  refine heldSkip 3 60 rfl rfl (by kernel_rfl) (by kernel_rfl) (by kernel_rfl) (fun _ _ _ h => h) (by rfl) (by assumption) ?_
  simp only [List.setIfInBounds_toArray, List.set_cons_zero, List.set_cons_succ]
  refine heldSkip 4 61 rfl rfl (by kernel_rfl) (by kernel_rfl) (by kernel_rfl) (fun _ _ _ h => h) (by rfl) (by assumption) ?_
  simp only [List.setIfInBounds_toArray, List.set_cons_zero, List.set_cons_succ]
  refine heldSkip 5 62 rfl rfl (by kernel_rfl) (by kernel_rfl) (by kernel_rfl) (fun _ _ _ h => h) (by rfl) (by assumption) ?_
  simp only [List.setIfInBounds_toArray, List.set_cons_zero, List.set_cons_succ]
  refine heldSkip 6 63 rfl rfl (by kernel_rfl) (by kernel_rfl) (by kernel_rfl) (fun _ _ _ h => h) (by rfl) (by assumption) ?_
  simp only [List.setIfInBounds_toArray, List.set_cons_zero, List.set_cons_succ]
  refine heldSkip 7 64 rfl rfl (by kernel_rfl) (by kernel_rfl) (by kernel_rfl) (fun _ _ _ h => h) (by rfl) (by assumption) ?_
  simp only [List.setIfInBounds_toArray, List.set_cons_zero, List.set_cons_succ]
  refine heldSkip 8 65 rfl rfl (by kernel_rfl) (by kernel_rfl) (by kernel_rfl) (fun _ _ _ h => h) (by rfl) (by assumption) ?_
  simp only [List.setIfInBounds_toArray, List.set_cons_zero, List.set_cons_succ]
  refine heldSkip 9 66 rfl rfl (by kernel_rfl) (by kernel_rfl) (by kernel_rfl) (fun _ _ _ h => h) (by rfl) (by assumption) ?_
  simp only [List.setIfInBounds_toArray, List.set_cons_zero, List.set_cons_succ]
  refine heldSkip 10 67 rfl rfl (by kernel_rfl) (by kernel_rfl) (by kernel_rfl) (fun _ _ _ h => h) (by rfl) (by assumption) ?_
  simp only [List.setIfInBounds_toArray, List.set_cons_zero, List.set_cons_succ]
  refine heldTake (v := ?_) 11 68 rfl rfl (by kernel_rfl) (by kernel_rfl) (by kernel_rfl) (fun _ _ _ h => h) (by rfl) (fun w hSw => ?_) (by assumption) ?_
  rotate_left
  · (try dsimp only at hSw); first | (go_simp; done) | (go_simp; with_reducible rfl)
  simp only [List.setIfInBounds_toArray, List.set_cons_zero, List.set_cons_succ]
  refine heldTake (v := ?_) 12 69 rfl rfl (by kernel_rfl) (by kernel_rfl) (by kernel_rfl) (fun _ _ _ h => h) (by rfl) (fun w hSw => ?_) (by assumption) ?_
  rotate_left
  · (try dsimp only at hSw); first | (go_simp; done) | (go_simp; with_reducible rfl)
  simp only [List.setIfInBounds_toArray, List.set_cons_zero, List.set_cons_succ]
  refine heldTake (v := ?_) 13 70 rfl rfl (by kernel_rfl) (by kernel_rfl) (by kernel_rfl) (fun _ _ _ h => h) (by rfl) (fun w hSw => ?_) (by assumption) ?_
  rotate_left
  · (try dsimp only at hSw); first | (go_simp; done) | (go_simp; with_reducible rfl)
  simp only [List.setIfInBounds_toArray, List.set_cons_zero, List.set_cons_succ]
  refine heldTake (v := ?_) 14 71 rfl rfl (by kernel_rfl) (by kernel_rfl) (by kernel_rfl) (fun _ _ _ h => h) (by rfl) (fun w hSw => ?_) (by assumption) ?_
  rotate_left
  · (try dsimp only at hSw); first | (go_simp; done) | (go_simp; with_reducible rfl)
  simp only [List.setIfInBounds_toArray, List.set_cons_zero, List.set_cons_succ]
  refine heldSkip 15 72 rfl rfl (by kernel_rfl) (by kernel_rfl) (by kernel_rfl) (fun _ _ _ h => h) (by rfl) (by assumption) ?_
  simp only [List.setIfInBounds_toArray, List.set_cons_zero, List.set_cons_succ]
  refine heldSkip 16 73 rfl rfl (by kernel_rfl) (by kernel_rfl) (by kernel_rfl) (fun _ _ _ h => h) (by rfl) (by assumption) ?_
  simp only [List.setIfInBounds_toArray, List.set_cons_zero, List.set_cons_succ]
  refine heldSkip 17 74 rfl rfl (by kernel_rfl) (by kernel_rfl) (by kernel_rfl) (fun _ _ _ h => h) (by rfl) (by assumption) ?_
  simp only [List.setIfInBounds_toArray, List.set_cons_zero, List.set_cons_succ]
  refine heldSkip 18 75 rfl rfl (by kernel_rfl) (by kernel_rfl) (by kernel_rfl) (fun _ _ _ h => h) (by rfl) (by assumption) ?_
  simp only [List.setIfInBounds_toArray, List.set_cons_zero, List.set_cons_succ]
  refine heldSkip 19 76 rfl rfl (by kernel_rfl) (by kernel_rfl) (by kernel_rfl) (fun _ _ _ h => h) (by rfl) (by assumption) ?_
  simp only [List.setIfInBounds_toArray, List.set_cons_zero, List.set_cons_succ]
  refine heldSkip 20 77 rfl rfl (by kernel_rfl) (by kernel_rfl) (by kernel_rfl) (fun _ _ _ h => h) (by rfl) (by assumption) ?_
  simp only [List.setIfInBounds_toArray, List.set_cons_zero, List.set_cons_succ]
  refine heldSkip 21 78 rfl rfl (by kernel_rfl) (by kernel_rfl) (by kernel_rfl) (fun _ _ _ h => h) (by rfl) (by assumption) ?_
  simp only [List.setIfInBounds_toArray, List.set_cons_zero, List.set_cons_succ]
  refine heldSkip 22 79 rfl rfl (by kernel_rfl) (by kernel_rfl) (by kernel_rfl) (fun _ _ _ h => h) (by rfl) (by assumption) ?_
  simp only [List.setIfInBounds_toArray, List.set_cons_zero, List.set_cons_succ]
  refine heldSkip 23 80 rfl rfl (by kernel_rfl) (by kernel_rfl) (by kernel_rfl) (fun _ _ _ h => h) (by rfl) (by assumption) ?_
  simp only [List.setIfInBounds_toArray, List.set_cons_zero, List.set_cons_succ]
  refine heldSkip 24 81 rfl rfl (by kernel_rfl) (by kernel_rfl) (by kernel_rfl) (fun _ _ _ h => h) (by rfl) (by assumption) ?_
  simp only [List.setIfInBounds_toArray, List.set_cons_zero, List.set_cons_succ]
  refine heldSkip 25 82 rfl rfl (by kernel_rfl) (by kernel_rfl) (by kernel_rfl) (fun _ _ _ h => h) (by rfl) (by assumption) ?_
  simp only [List.setIfInBounds_toArray, List.set_cons_zero, List.set_cons_succ]
  refine heldTake (v := ?_) 26 83 rfl rfl (by kernel_rfl) (by kernel_rfl) (by kernel_rfl) (fun _ _ _ h => h) (by rfl) (fun w hSw => ?_) (by assumption) ?_
  rotate_left
  · (try dsimp only at hSw); first | (go_simp; done) | (go_simp; with_reducible rfl)
  simp only [List.setIfInBounds_toArray, List.set_cons_zero, List.set_cons_succ]
  refine heldTake (v := ?_) 27 84 rfl rfl (by kernel_rfl) (by kernel_rfl) (by kernel_rfl) (fun _ _ _ h => h) (by rfl) (fun w hSw => ?_) (by assumption) ?_
  rotate_left
  · (try dsimp only at hSw); first | (go_simp; done) | (go_simp; with_reducible rfl)
  simp only [List.setIfInBounds_toArray, List.set_cons_zero, List.set_cons_succ]
  refine wpAnyH_done (by kernel_rfl) ?_ _
  have HB9 : Hid (Below w.heap.size w _) := hHeld.2.2.2.2.2.2
  clear hHeld HS
  go_wp2
  go_ret
  exact ⟨by rw [HE.out]; rfl, HB9.out⟩

set_option maxRecDepth 100000 in
set_option maxHeartbeats 4000000 in
theorem rPred6_col (x : PPr) (a : Option Addr) (n cap : Nat) (ts : List Int) (w : World) (hn : ts.length = n) (h4 : n ≤ 65536) (hr : RdI .i64 w a ts) (hk : x.kind = 6) (hp : placeB x.col n = false) :
    Calls Try.prog 12 #[.agg (cellsP x), .slice a n cap] w fun e w' => e = .returned (.int .i64 (chkP x ts)) ∧ Below w.heap.size w w' := by
  have HN : Hid (ts.length = n) := hn
  have HR : Hid (RdI .i64 w a ts) := hr
  clear hn hr
  have HE : Hid (chkP x ts = 1) := chkP_has (by rw [HN.out]; simp [hasB, hp])
  obtain ⟨k, c, o, vk, vi, vs⟩ := x
  try simp only at hk hp
  simp only [cellsP]
  subst hk
  have ew := wrap_less n h4
  have ew2 : wrap64 ((n : Int) - 1) = (n : Int) - 1 := IntWalk.wrap64_in _ ⟨by omega, by omega⟩
  go_enter Try.func12, Try.ntmps12
  go_wp2_with fail
  refine (p14In_any _ _ _ _).mono ?_
  rintro e w4 ⟨rfl, hb⟩
  rw [show (decide ((1 : Int) ≤ 6) && decide ((6 : Int) ≤ 6)) = true from by decide]
  obtain ⟨c0, c1, c2, c3, c4, c5⟩ := box6 hb
  have HB : Hid (Below w.heap.size w w4) := chain (alloc_below _ _) hb
  clear hb
  go_wp2_with fail
  refine (p14Place _ n hp _).mono ?_
  rintro e w5 ⟨rfl, hb⟩
  have HS : w5.cell? ⟨w.heap.size, 0, none⟩ = some (.int .i64 6) ∧ w5.cell? ⟨w.heap.size, 1, none⟩ = some (.int .i64 c) ∧ w5.cell? ⟨w.heap.size, 2, none⟩ = some (.int .i64 o) ∧ w5.cell? ⟨w.heap.size, 3, none⟩ = some (.int .i64 vk) ∧ w5.cell? ⟨w.heap.size, 4, none⟩ = some (.int .i64 vi) ∧ w5.cell? ⟨w.heap.size, 5, none⟩ = some (.string vs) ∧ Hid (Below w.heap.size w w5) := keepP6 hb ⟨c0, c1, c2, c3, c4, c5, HB⟩
  clear c0 c1 c2 c3 c4 c5 HB hb
  obtain ⟨c0, c1, c2, c3, c4, c5, HB⟩ := HS
  go_wp2
  go_ret
  exact ⟨by rw [HE.out]; rfl, HB.out⟩

set_option maxRecDepth 100000 in
set_option maxHeartbeats 4000000 in
theorem rPred6_one (x : PPr) (a : Option Addr) (n cap : Nat) (ts : List Int) (w : World) (hn : ts.length = n) (h4 : n ≤ 65536) (hr : RdI .i64 w a ts) (hk : x.kind = 6) (hp : placeB x.col n = true) :
    Calls Try.prog 12 #[.agg (cellsP x), .slice a n cap] w fun e w' => e = .returned (.int .i64 (chkP x ts)) ∧ Below w.heap.size w w' := by
  have HN : Hid (ts.length = n) := hn
  have HR : Hid (RdI .i64 w a ts) := hr
  clear hn hr
  have hh : hasB x n = true := by simp [hasB, hp, hk, askO]
  have HE : Hid (chkP x ts = 0) := chkP_one (by rw [hk]; rfl) (by rw [HN.out]; exact hh) (by rw [hk]; rfl) (by rw [hk]; rfl)
  clear hh
  obtain ⟨k, c, o, vk, vi, vs⟩ := x
  try simp only at hk hp
  simp only [cellsP]
  subst hk
  have ew := wrap_less n h4
  have ew2 : wrap64 ((n : Int) - 1) = (n : Int) - 1 := IntWalk.wrap64_in _ ⟨by omega, by omega⟩
  go_enter Try.func12, Try.ntmps12
  go_wp2_with fail
  refine (p14In_any _ _ _ _).mono ?_
  rintro e w4 ⟨rfl, hb⟩
  rw [show (decide ((1 : Int) ≤ 6) && decide ((6 : Int) ≤ 6)) = true from by decide]
  obtain ⟨c0, c1, c2, c3, c4, c5⟩ := box6 hb
  have HB : Hid (Below w.heap.size w w4) := chain (alloc_below _ _) hb
  clear hb
  go_wp2_with fail
  refine (p14Place _ n hp _).mono ?_
  rintro e w5 ⟨rfl, hb⟩
  have HS : w5.cell? ⟨w.heap.size, 0, none⟩ = some (.int .i64 6) ∧ w5.cell? ⟨w.heap.size, 1, none⟩ = some (.int .i64 c) ∧ w5.cell? ⟨w.heap.size, 2, none⟩ = some (.int .i64 o) ∧ w5.cell? ⟨w.heap.size, 3, none⟩ = some (.int .i64 vk) ∧ w5.cell? ⟨w.heap.size, 4, none⟩ = some (.int .i64 vi) ∧ w5.cell? ⟨w.heap.size, 5, none⟩ = some (.string vs) ∧ Hid (Below w.heap.size w w5) := keepP6 hb ⟨c0, c1, c2, c3, c4, c5, HB⟩
  clear c0 c1 c2 c3 c4 c5 HB hb
  obtain ⟨c0, c1, c2, c3, c4, c5, HB⟩ := HS
  go_upto_region 5 with fail
  have HS : w5.drew.cell? ⟨w.heap.size, 0, none⟩ = some (.int .i64 6) ∧ w5.drew.cell? ⟨w.heap.size, 1, none⟩ = some (.int .i64 c) ∧ w5.drew.cell? ⟨w.heap.size, 2, none⟩ = some (.int .i64 o) ∧ w5.drew.cell? ⟨w.heap.size, 3, none⟩ = some (.int .i64 vk) ∧ w5.drew.cell? ⟨w.heap.size, 4, none⟩ = some (.int .i64 vi) ∧ w5.drew.cell? ⟨w.heap.size, 5, none⟩ = some (.string vs) ∧ Hid (Below w.heap.size w w5.drew) := keepP6 (Below.refl _ _).drew ⟨c0, c1, c2, c3, c4, c5, HB⟩
  clear c0 c1 c2 c3 c4 c5 HB
  refine wp_region_held_drew (S := (fun w' => w'.cell? ⟨w.heap.size, 0, none⟩ = some (.int .i64 6) ∧ w'.cell? ⟨w.heap.size, 1, none⟩ = some (.int .i64 c) ∧ w'.cell? ⟨w.heap.size, 2, none⟩ = some (.int .i64 o) ∧ w'.cell? ⟨w.heap.size, 3, none⟩ = some (.int .i64 vk) ∧ w'.cell? ⟨w.heap.size, 4, none⟩ = some (.int .i64 vi) ∧ w'.cell? ⟨w.heap.size, 5, none⟩ = some (.string vs) ∧ Hid (Below w.heap.size w w'))) (by kernel_rfl) HS (fun hHeld => ?_)
  refine heldTake (v := ?_) 0 57 rfl rfl (by kernel_rfl) (by kernel_rfl) (by kernel_rfl) (fun _ _ _ h => h) (by rfl) (fun w hSw => ?_) (by assumption) ?_
  rotate_left
  · (try dsimp only at hSw); first | (go_simp; done) | (go_simp; with_reducible rfl)
  simp only [List.setIfInBounds_toArray, List.set_cons_zero, List.set_cons_succ]
  refine heldTake (v := ?_) 1 58 rfl rfl (by kernel_rfl) (by kernel_rfl) (by kernel_rfl) (fun _ _ _ h => h) (by rfl) (fun w hSw => ?_) (by assumption) ?_
  rotate_left
  · (try dsimp only at hSw); first | (go_simp; done) | (go_simp; with_reducible rfl)
  simp only [List.setIfInBounds_toArray, List.set_cons_zero, List.set_cons_succ]
  refine heldSkip 2 59 rfl rfl (by kernel_rfl) (by kernel_rfl) (by kernel_rfl) (fun _ _ _ h => h) (by rfl) (by assumption) ?_
  simp only [List.setIfInBounds_toArray, List.set_cons_zero, List.set_cons_succ]
  refine heldSkip 3 60 rfl rfl (by kernel_rfl) (by kernel_rfl) (by kernel_rfl) (fun _ _ _ h => h) (by rfl) (by assumption) ?_
  simp only [List.setIfInBounds_toArray, List.set_cons_zero, List.set_cons_succ]
  refine heldSkip 4 61 rfl rfl (by kernel_rfl) (by kernel_rfl) (by kernel_rfl) (fun _ _ _ h => h) (by rfl) (by assumption) ?_
  simp only [List.setIfInBounds_toArray, List.set_cons_zero, List.set_cons_succ]
  refine heldSkip 5 62 rfl rfl (by kernel_rfl) (by kernel_rfl) (by kernel_rfl) (fun _ _ _ h => h) (by rfl) (by assumption) ?_
  simp only [List.setIfInBounds_toArray, List.set_cons_zero, List.set_cons_succ]
  refine heldSkip 6 63 rfl rfl (by kernel_rfl) (by kernel_rfl) (by kernel_rfl) (fun _ _ _ h => h) (by rfl) (by assumption) ?_
  simp only [List.setIfInBounds_toArray, List.set_cons_zero, List.set_cons_succ]
  refine heldSkip 7 64 rfl rfl (by kernel_rfl) (by kernel_rfl) (by kernel_rfl) (fun _ _ _ h => h) (by rfl) (by assumption) ?_
  simp only [List.setIfInBounds_toArray, List.set_cons_zero, List.set_cons_succ]
  refine heldSkip 8 65 rfl rfl (by kernel_rfl) (by kernel_rfl) (by kernel_rfl) (fun _ _ _ h => h) (by rfl) (by assumption) ?_
  simp only [List.setIfInBounds_toArray, List.set_cons_zero, List.set_cons_succ]
  refine heldSkip 9 66 rfl rfl (by kernel_rfl) (by kernel_rfl) (by kernel_rfl) (fun _ _ _ h => h) (by rfl) (by assumption) ?_
  simp only [List.setIfInBounds_toArray, List.set_cons_zero, List.set_cons_succ]
  refine heldSkip 10 67 rfl rfl (by kernel_rfl) (by kernel_rfl) (by kernel_rfl) (fun _ _ _ h => h) (by rfl) (by assumption) ?_
  simp only [List.setIfInBounds_toArray, List.set_cons_zero, List.set_cons_succ]
  refine heldTake (v := ?_) 11 68 rfl rfl (by kernel_rfl) (by kernel_rfl) (by kernel_rfl) (fun _ _ _ h => h) (by rfl) (fun w hSw => ?_) (by assumption) ?_
  rotate_left
  · (try dsimp only at hSw); first | (go_simp; done) | (go_simp; with_reducible rfl)
  simp only [List.setIfInBounds_toArray, List.set_cons_zero, List.set_cons_succ]
  refine heldTake (v := ?_) 12 69 rfl rfl (by kernel_rfl) (by kernel_rfl) (by kernel_rfl) (fun _ _ _ h => h) (by rfl) (fun w hSw => ?_) (by assumption) ?_
  rotate_left
  · (try dsimp only at hSw); first | (go_simp; done) | (go_simp; with_reducible rfl)
  simp only [List.setIfInBounds_toArray, List.set_cons_zero, List.set_cons_succ]
  refine heldTake (v := ?_) 13 70 rfl rfl (by kernel_rfl) (by kernel_rfl) (by kernel_rfl) (fun _ _ _ h => h) (by rfl) (fun w hSw => ?_) (by assumption) ?_
  rotate_left
  · (try dsimp only at hSw); first | (go_simp; done) | (go_simp; with_reducible rfl)
  simp only [List.setIfInBounds_toArray, List.set_cons_zero, List.set_cons_succ]
  refine heldTake (v := ?_) 14 71 rfl rfl (by kernel_rfl) (by kernel_rfl) (by kernel_rfl) (fun _ _ _ h => h) (by rfl) (fun w hSw => ?_) (by assumption) ?_
  rotate_left
  · (try dsimp only at hSw); first | (go_simp; done) | (go_simp; with_reducible rfl)
  simp only [List.setIfInBounds_toArray, List.set_cons_zero, List.set_cons_succ]
  refine heldSkip 15 72 rfl rfl (by kernel_rfl) (by kernel_rfl) (by kernel_rfl) (fun _ _ _ h => h) (by rfl) (by assumption) ?_
  simp only [List.setIfInBounds_toArray, List.set_cons_zero, List.set_cons_succ]
  refine heldSkip 16 73 rfl rfl (by kernel_rfl) (by kernel_rfl) (by kernel_rfl) (fun _ _ _ h => h) (by rfl) (by assumption) ?_
  simp only [List.setIfInBounds_toArray, List.set_cons_zero, List.set_cons_succ]
  refine heldSkip 17 74 rfl rfl (by kernel_rfl) (by kernel_rfl) (by kernel_rfl) (fun _ _ _ h => h) (by rfl) (by assumption) ?_
  simp only [List.setIfInBounds_toArray, List.set_cons_zero, List.set_cons_succ]
  refine heldSkip 18 75 rfl rfl (by kernel_rfl) (by kernel_rfl) (by kernel_rfl) (fun _ _ _ h => h) (by rfl) (by assumption) ?_
  simp only [List.setIfInBounds_toArray, List.set_cons_zero, List.set_cons_succ]
  refine heldSkip 19 76 rfl rfl (by kernel_rfl) (by kernel_rfl) (by kernel_rfl) (fun _ _ _ h => h) (by rfl) (by assumption) ?_
  simp only [List.setIfInBounds_toArray, List.set_cons_zero, List.set_cons_succ]
  refine heldSkip 20 77 rfl rfl (by kernel_rfl) (by kernel_rfl) (by kernel_rfl) (fun _ _ _ h => h) (by rfl) (by assumption) ?_
  simp only [List.setIfInBounds_toArray, List.set_cons_zero, List.set_cons_succ]
  refine heldSkip 21 78 rfl rfl (by kernel_rfl) (by kernel_rfl) (by kernel_rfl) (fun _ _ _ h => h) (by rfl) (by assumption) ?_
  simp only [List.setIfInBounds_toArray, List.set_cons_zero, List.set_cons_succ]
  refine heldSkip 22 79 rfl rfl (by kernel_rfl) (by kernel_rfl) (by kernel_rfl) (fun _ _ _ h => h) (by rfl) (by assumption) ?_
  simp only [List.setIfInBounds_toArray, List.set_cons_zero, List.set_cons_succ]
  refine heldSkip 23 80 rfl rfl (by kernel_rfl) (by kernel_rfl) (by kernel_rfl) (fun _ _ _ h => h) (by rfl) (by assumption) ?_
  simp only [List.setIfInBounds_toArray, List.set_cons_zero, List.set_cons_succ]
  refine heldSkip 24 81 rfl rfl (by kernel_rfl) (by kernel_rfl) (by kernel_rfl) (fun _ _ _ h => h) (by rfl) (by assumption) ?_
  simp only [List.setIfInBounds_toArray, List.set_cons_zero, List.set_cons_succ]
  refine heldSkip 25 82 rfl rfl (by kernel_rfl) (by kernel_rfl) (by kernel_rfl) (fun _ _ _ h => h) (by rfl) (by assumption) ?_
  simp only [List.setIfInBounds_toArray, List.set_cons_zero, List.set_cons_succ]
  refine heldTake (v := ?_) 26 83 rfl rfl (by kernel_rfl) (by kernel_rfl) (by kernel_rfl) (fun _ _ _ h => h) (by rfl) (fun w hSw => ?_) (by assumption) ?_
  rotate_left
  · (try dsimp only at hSw); first | (go_simp; done) | (go_simp; with_reducible rfl)
  simp only [List.setIfInBounds_toArray, List.set_cons_zero, List.set_cons_succ]
  refine heldTake (v := ?_) 27 84 rfl rfl (by kernel_rfl) (by kernel_rfl) (by kernel_rfl) (fun _ _ _ h => h) (by rfl) (fun w hSw => ?_) (by assumption) ?_
  rotate_left
  · (try dsimp only at hSw); first | (go_simp; done) | (go_simp; with_reducible rfl)
  simp only [List.setIfInBounds_toArray, List.set_cons_zero, List.set_cons_succ]
  refine wpAnyH_done (by kernel_rfl) ?_ _
  have HB9 : Hid (Below w.heap.size w _) := hHeld.2.2.2.2.2.2
  clear hHeld HS
  go_wp2
  go_ret
  exact ⟨by rw [HE.out]; rfl, HB9.out⟩

theorem rPred_any (x : PPr) (a : Option Addr) (n cap : Nat) (ts : List Int) (w : World) (hn : ts.length = n) (h4 : n ≤ 65536) (hr : RdI .i64 w a ts) :
    Calls Try.prog 12 #[.agg (cellsP x), .slice a n cap] w fun e w' => e = .returned (.int .i64 (chkP x ts)) ∧ Below w.heap.size w w' := by
  cases hk : kindB x.kind with
  | false => exact rPred_kind x a n cap ts w hn h4 hr hk
  | true =>
    have hk6 : 1 ≤ x.kind ∧ x.kind ≤ 6 := by simpa [kindB] using hk
    by_cases hkk : x.kind = 1
    · cases hp : placeB x.col n with
      | false => exact rPred1_col x a n cap ts w hn h4 hr hkk hp
      | true =>
        cases hq : okV x.val with
        | false => exact rPred1_ok x a n cap ts w hn h4 hr hkk hp hq
        | true =>
          cases hf : fitsV x.val (atI ts x.col) with
          | true => exact rPred1_true x a n cap ts w hn h4 hr hkk hp hq hf
          | false => exact rPred1_false x a n cap ts w hn h4 hr hkk hp hq hf
    by_cases hkk : x.kind = 2
    · cases hp : placeB x.col n with
      | false => exact rPred2_col x a n cap ts w hn h4 hr hkk hp
      | true =>
        cases hq : okV x.val with
        | false => exact rPred2_ok x a n cap ts w hn h4 hr hkk hp hq
        | true =>
          cases hf : fitsV x.val (atI ts x.col) with
          | true => exact rPred2_true x a n cap ts w hn h4 hr hkk hp hq hf
          | false => exact rPred2_false x a n cap ts w hn h4 hr hkk hp hq hf
    by_cases hkk : x.kind = 3
    · cases hp : placeB x.col n with
      | false => exact rPred3_col x a n cap ts w hn h4 hr hkk hp
      | true =>
        cases hp2 : placeB x.other n with
        | false => exact rPred3_oth x a n cap ts w hn h4 hr hkk hp hp2
        | true =>
          by_cases hne : atI ts x.other = atI ts x.col
          · exact rPred3_true x a n cap ts w hn h4 hr hkk hp hp2 hne
          · exact rPred3_false x a n cap ts w hn h4 hr hkk hp hp2 hne
    by_cases hkk : x.kind = 4
    · cases hp : placeB x.col n with
      | false => exact rPred4_col x a n cap ts w hn h4 hr hkk hp
      | true =>
        cases hp2 : placeB x.other n with
        | false => exact rPred4_oth x a n cap ts w hn h4 hr hkk hp hp2
        | true =>
          by_cases hne : atI ts x.other = atI ts x.col
          · exact rPred4_true x a n cap ts w hn h4 hr hkk hp hp2 hne
          · exact rPred4_false x a n cap ts w hn h4 hr hkk hp hp2 hne
    by_cases hkk : x.kind = 5
    · cases hp : placeB x.col n with
      | false => exact rPred5_col x a n cap ts w hn h4 hr hkk hp
      | true =>
        exact rPred5_one x a n cap ts w hn h4 hr hkk hp
    by_cases hkk : x.kind = 6
    · cases hp : placeB x.col n with
      | false => exact rPred6_col x a n cap ts w hn h4 hr hkk hp
      | true =>
        exact rPred6_one x a n cap ts w hn h4 hr hkk hp
    omega

end Go.Proofs.Ytmolklaammfbmaa
