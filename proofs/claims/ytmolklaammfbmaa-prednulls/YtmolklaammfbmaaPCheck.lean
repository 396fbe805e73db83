/-
  What pred's Check answers, of the landed code.
-/
import Derived.Test.YtmolklaammfbmaaRows
import Derived.Test.YtmolklaammfbmaaPKeep
import Derived.Test.YtmolklaammfbmaaVCodeB
import Derived.Test.YtmolklaammfbmaaHeld
import Derived.Deep.CutRange
namespace Go.Proofs.Ytmolklaammfbmaa
open Go.RowKit Go.Lib
set_option linter.unusedVariables false

theorem chkP_kind {x : PPr} {ts : List Int} (h : kindB x.kind = false) : chkP x ts = 1 := by simp [chkP, h]

theorem chkP_has {x : PPr} {ts : List Int} (h : hasB x ts.length = false) : chkP x ts = 1 := by simp [chkP, h]

theorem chkP_ok {x : PPr} {ts : List Int} (h : askV x.kind = true) (h2 : okV x.val = false) : chkP x ts = 1 := by simp [chkP, h, h2]

theorem chkP_val {x : PPr} {ts : List Int} (h1 : kindB x.kind = true) (h2 : hasB x ts.length = true) (h3 : askV x.kind = true) (h4 : askO x.kind = false) (h5 : okV x.val = true) : chkP x ts = if fitsV x.val (atI ts x.col) = true then 0 else 10 := by
  cases h : fitsV x.val (atI ts x.col) <;> simp [chkP, h1, h2, h3, h4, h5, h]

theorem chkP_oth {x : PPr} {ts : List Int} (h1 : kindB x.kind = true) (h2 : hasB x ts.length = true) (h3 : askV x.kind = false) (h4 : askO x.kind = true) : chkP x ts = if atI ts x.other = atI ts x.col then 0 else 10 := by
  by_cases h : atI ts x.other = atI ts x.col <;> simp [chkP, h1, h2, h3, h4, h]

theorem chkP_one {x : PPr} {ts : List Int} (h1 : kindB x.kind = true) (h2 : hasB x ts.length = true) (h3 : askV x.kind = false) (h4 : askO x.kind = false) : chkP x ts = 0 := by simp [chkP, h1, h2, h3, h4]

theorem has_col {x : PPr} {n : Nat} (h : hasB x n = true) : ∃ i : Nat, x.col = i ∧ i < n := by
  simp only [hasB, Bool.and_eq_true, placeB_iff] at h
  exact ⟨x.col.toNat, by omega, by omega⟩

theorem has_oth {x : PPr} {n : Nat} (h : hasB x n = true) (ho : askO x.kind = true) : ∃ i : Nat, x.other = i ∧ i < n := by
  simp only [hasB, Bool.and_eq_true, placeB_iff, ho, Bool.not_true, Bool.false_or] at h
  exact ⟨x.other.toNat, by omega, by omega⟩

set_option maxRecDepth 100000 in
set_option maxHeartbeats 4000000 in
theorem pCheck_kind (x : PPr) (a : Option Addr) (n cap : Nat) (ts : List Int) (w : World) (hn : ts.length = n) (h4 : n ≤ 65536) (hr : RdI .i64 w a ts) (hk : kindB x.kind = false) (hv0 : ∃ b, askV x.kind = b) (ho0 : ∃ b, askO x.kind = b) :
    Calls Try.prog 11 #[.agg (cellsP x), .slice a n cap] w fun e w' => e = .returned (.int .i64 (chkP x ts)) ∧ Below w.heap.size w w' := by
  have HN : Hid (ts.length = n) := hn
  have HR : Hid (RdI .i64 w a ts) := hr
  clear hn hr
  have HE : Hid (chkP x ts = 1) := chkP_kind hk
  obtain ⟨bv, hv⟩ := hv0
  obtain ⟨bo, ho⟩ := ho0
  obtain ⟨k, c, o, vk, vi, vs⟩ := x
  try simp only at hk hv ho
  simp only [cellsP]
  have CV := pAskV_any k
  have CO := pAskO_any k
  rw [hv] at CV
  rw [ho] at CO
  have CK := pKind_any k
  rw [hk] at CK
  go_enter Try.func11, Try.ntmps11
  go_upto_region 1 with fail
  have HS : (w.alloc (.cells #[.int .i64 k, .int .i64 c, .int .i64 o, .int .i64 vk, .int .i64 vi, .string vs] 25)).cell? ⟨w.heap.size, 0, none⟩ = some (.int .i64 k) ∧ (w.alloc (.cells #[.int .i64 k, .int .i64 c, .int .i64 o, .int .i64 vk, .int .i64 vi, .string vs] 25)).cell? ⟨w.heap.size, 1, none⟩ = some (.int .i64 c) ∧ (w.alloc (.cells #[.int .i64 k, .int .i64 c, .int .i64 o, .int .i64 vk, .int .i64 vi, .string vs] 25)).cell? ⟨w.heap.size, 2, none⟩ = some (.int .i64 o) ∧ (w.alloc (.cells #[.int .i64 k, .int .i64 c, .int .i64 o, .int .i64 vk, .int .i64 vi, .string vs] 25)).cell? ⟨w.heap.size, 3, none⟩ = some (.int .i64 vk) ∧ (w.alloc (.cells #[.int .i64 k, .int .i64 c, .int .i64 o, .int .i64 vk, .int .i64 vi, .string vs] 25)).cell? ⟨w.heap.size, 4, none⟩ = some (.int .i64 vi) ∧ (w.alloc (.cells #[.int .i64 k, .int .i64 c, .int .i64 o, .int .i64 vk, .int .i64 vi, .string vs] 25)).cell? ⟨w.heap.size, 5, none⟩ = some (.string vs) ∧ Hid (Below w.heap.size w (w.alloc (.cells #[.int .i64 k, .int .i64 c, .int .i64 o, .int .i64 vk, .int .i64 vi, .string vs] 25))) := by
    obtain ⟨c0, c1, c2, c3, c4, c5⟩ := box6 (Below.refl (w.alloc (.cells #[.int .i64 k, .int .i64 c, .int .i64 o, .int .i64 vk, .int .i64 vi, .string vs] 25)).heap.size (w.alloc (.cells #[.int .i64 k, .int .i64 c, .int .i64 o, .int .i64 vk, .int .i64 vi, .string vs] 25)))
    exact ⟨c0, c1, c2, c3, c4, c5, alloc_below _ _⟩
  go_region_held3 (fun w' => w'.cell? ⟨w.heap.size, 0, none⟩ = some (.int .i64 k) ∧ w'.cell? ⟨w.heap.size, 1, none⟩ = some (.int .i64 c) ∧ w'.cell? ⟨w.heap.size, 2, none⟩ = some (.int .i64 o) ∧ w'.cell? ⟨w.heap.size, 3, none⟩ = some (.int .i64 vk) ∧ w'.cell? ⟨w.heap.size, 4, none⟩ = some (.int .i64 vi) ∧ w'.cell? ⟨w.heap.size, 5, none⟩ = some (.string vs) ∧ Hid (Below w.heap.size w w')) (first | exact keepP6 (by assumption) (by assumption) | exact keepP6 (Below.refl _ _).drew (by assumption)) (first | (go_at_call 21; refine (CV _).mono ?_; rintro e w' ⟨rfl, hb⟩) | (go_at_call 22; refine (CO _).mono ?_; rintro e w' ⟨rfl, hb⟩))
  have HS1 : w'.cell? ⟨w.heap.size, 0, none⟩ = some (.int .i64 k) ∧ w'.cell? ⟨w.heap.size, 1, none⟩ = some (.int .i64 c) ∧ w'.cell? ⟨w.heap.size, 2, none⟩ = some (.int .i64 o) ∧ w'.cell? ⟨w.heap.size, 3, none⟩ = some (.int .i64 vk) ∧ w'.cell? ⟨w.heap.size, 4, none⟩ = some (.int .i64 vi) ∧ w'.cell? ⟨w.heap.size, 5, none⟩ = some (.string vs) ∧ Hid (Below w.heap.size w w') := by assumption
  clear HS CV CO
  rename World => w2
  obtain ⟨c0, c1, c2, c3, c4, c5, HB⟩ := HS1
  go_wp2_with fail
  refine (CK _).mono ?_
  rintro e w3 ⟨rfl, hb⟩
  have HS : w3.cell? ⟨w.heap.size, 0, none⟩ = some (.int .i64 k) ∧ w3.cell? ⟨w.heap.size, 1, none⟩ = some (.int .i64 c) ∧ w3.cell? ⟨w.heap.size, 2, none⟩ = some (.int .i64 o) ∧ w3.cell? ⟨w.heap.size, 3, none⟩ = some (.int .i64 vk) ∧ w3.cell? ⟨w.heap.size, 4, none⟩ = some (.int .i64 vi) ∧ w3.cell? ⟨w.heap.size, 5, none⟩ = some (.string vs) ∧ Hid (Below w.heap.size w w3) := keepP6 hb ⟨c0, c1, c2, c3, c4, c5, HB⟩
  clear c0 c1 c2 c3 c4 c5 HB hb CK
  obtain ⟨c0, c1, c2, c3, c4, c5, HB⟩ := HS
  go_wp2
  go_ret
  exact ⟨by rw [HE.out]; rfl, HB.out⟩

set_option maxRecDepth 100000 in
set_option maxHeartbeats 4000000 in
theorem pCheck_has (x : PPr) (a : Option Addr) (n cap : Nat) (ts : List Int) (w : World) (hn : ts.length = n) (h4 : n ≤ 65536) (hr : RdI .i64 w a ts) (hk : kindB x.kind = true) (hh : hasB x n = false) (hv0 : ∃ b, askV x.kind = b) (ho0 : ∃ b, askO x.kind = b) :
    Calls Try.prog 11 #[.agg (cellsP x), .slice a n cap] w fun e w' => e = .returned (.int .i64 (chkP x ts)) ∧ Below w.heap.size w w' := by
  have HN : Hid (ts.length = n) := hn
  have HR : Hid (RdI .i64 w a ts) := hr
  clear hn hr
  have HE : Hid (chkP x ts = 1) := chkP_has (by rw [HN.out]; exact hh)
  obtain ⟨bv, hv⟩ := hv0
  obtain ⟨bo, ho⟩ := ho0
  obtain ⟨k, c, o, vk, vi, vs⟩ := x
  try simp only at hk hv ho hh
  simp only [cellsP]
  have CH := pHas_any ⟨k, c, o, vk, vi, vs⟩ n
  rw [hh] at CH
  simp only [cellsP] at CH
  have CV := pAskV_any k
  have CO := pAskO_any k
  rw [hv] at CV
  rw [ho] at CO
  have CK := pKind_any k
  rw [hk] at CK
  go_enter Try.func11, Try.ntmps11
  go_upto_region 1 with fail
  have HS : (w.alloc (.cells #[.int .i64 k, .int .i64 c, .int .i64 o, .int .i64 vk, .int .i64 vi, .string vs] 25)).cell? ⟨w.heap.size, 0, none⟩ = some (.int .i64 k) ∧ (w.alloc (.cells #[.int .i64 k, .int .i64 c, .int .i64 o, .int .i64 vk, .int .i64 vi, .string vs] 25)).cell? ⟨w.heap.size, 1, none⟩ = some (.int .i64 c) ∧ (w.alloc (.cells #[.int .i64 k, .int .i64 c, .int .i64 o, .int .i64 vk, .int .i64 vi, .string vs] 25)).cell? ⟨w.heap.size, 2, none⟩ = some (.int .i64 o) ∧ (w.alloc (.cells #[.int .i64 k, .int .i64 c, .int .i64 o, .int .i64 vk, .int .i64 vi, .string vs] 25)).cell? ⟨w.heap.size, 3, none⟩ = some (.int .i64 vk) ∧ (w.alloc (.cells #[.int .i64 k, .int .i64 c, .int .i64 o, .int .i64 vk, .int .i64 vi, .string vs] 25)).cell? ⟨w.heap.size, 4, none⟩ = some (.int .i64 vi) ∧ (w.alloc (.cells #[.int .i64 k, .int .i64 c, .int .i64 o, .int .i64 vk, .int .i64 vi, .string vs] 25)).cell? ⟨w.heap.size, 5, none⟩ = some (.string vs) ∧ Hid (Below w.heap.size w (w.alloc (.cells #[.int .i64 k, .int .i64 c, .int .i64 o, .int .i64 vk, .int .i64 vi, .string vs] 25))) := by
    obtain ⟨c0, c1, c2, c3, c4, c5⟩ := box6 (Below.refl (w.alloc (.cells #[.int .i64 k, .int .i64 c, .int .i64 o, .int .i64 vk, .int .i64 vi, .string vs] 25)).heap.size (w.alloc (.cells #[.int .i64 k, .int .i64 c, .int .i64 o, .int .i64 vk, .int .i64 vi, .string vs] 25)))
    exact ⟨c0, c1, c2, c3, c4, c5, alloc_below _ _⟩
  go_region_held3 (fun w' => w'.cell? ⟨w.heap.size, 0, none⟩ = some (.int .i64 k) ∧ w'.cell? ⟨w.heap.size, 1, none⟩ = some (.int .i64 c) ∧ w'.cell? ⟨w.heap.size, 2, none⟩ = some (.int .i64 o) ∧ w'.cell? ⟨w.heap.size, 3, none⟩ = some (.int .i64 vk) ∧ w'.cell? ⟨w.heap.size, 4, none⟩ = some (.int .i64 vi) ∧ w'.cell? ⟨w.heap.size, 5, none⟩ = some (.string vs) ∧ Hid (Below w.heap.size w w')) (first | exact keepP6 (by assumption) (by assumption) | exact keepP6 (Below.refl _ _).drew (by assumption)) (first | (go_at_call 21; refine (CV _).mono ?_; rintro e w' ⟨rfl, hb⟩) | (go_at_call 22; refine (CO _).mono ?_; rintro e w' ⟨rfl, hb⟩))
  have HS1 : w'.cell? ⟨w.heap.size, 0, none⟩ = some (.int .i64 k) ∧ w'.cell? ⟨w.heap.size, 1, none⟩ = some (.int .i64 c) ∧ w'.cell? ⟨w.heap.size, 2, none⟩ = some (.int .i64 o) ∧ w'.cell? ⟨w.heap.size, 3, none⟩ = some (.int .i64 vk) ∧ w'.cell? ⟨w.heap.size, 4, none⟩ = some (.int .i64 vi) ∧ w'.cell? ⟨w.heap.size, 5, none⟩ = some (.string vs) ∧ Hid (Below w.heap.size w w') := by assumption
  clear HS CV CO
  rename World => w2
  obtain ⟨c0, c1, c2, c3, c4, c5, HB⟩ := HS1
  go_wp2_with fail
  refine (CK _).mono ?_
  rintro e w3 ⟨rfl, hb⟩
  have HS : w3.cell? ⟨w.heap.size, 0, none⟩ = some (.int .i64 k) ∧ w3.cell? ⟨w.heap.size, 1, none⟩ = some (.int .i64 c) ∧ w3.cell? ⟨w.heap.size, 2, none⟩ = some (.int .i64 o) ∧ w3.cell? ⟨w.heap.size, 3, none⟩ = some (.int .i64 vk) ∧ w3.cell? ⟨w.heap.size, 4, none⟩ = some (.int .i64 vi) ∧ w3.cell? ⟨w.heap.size, 5, none⟩ = some (.string vs) ∧ Hid (Below w.heap.size w w3) := keepP6 hb ⟨c0, c1, c2, c3, c4, c5, HB⟩
  clear c0 c1 c2 c3 c4 c5 HB hb CK
  obtain ⟨c0, c1, c2, c3, c4, c5, HB⟩ := HS
  go_wp2_with fail
  refine (CH _).mono ?_
  rintro e w4 ⟨rfl, hb⟩
  have HS : w4.cell? ⟨w.heap.size, 0, none⟩ = some (.int .i64 k) ∧ w4.cell? ⟨w.heap.size, 1, none⟩ = some (.int .i64 c) ∧ w4.cell? ⟨w.heap.size, 2, none⟩ = some (.int .i64 o) ∧ w4.cell? ⟨w.heap.size, 3, none⟩ = some (.int .i64 vk) ∧ w4.cell? ⟨w.heap.size, 4, none⟩ = some (.int .i64 vi) ∧ w4.cell? ⟨w.heap.size, 5, none⟩ = some (.string vs) ∧ Hid (Below w.heap.size w w4) := keepP6 hb ⟨c0, c1, c2, c3, c4, c5, HB⟩
  clear c0 c1 c2 c3 c4 c5 HB hb CH
  obtain ⟨c0, c1, c2, c3, c4, c5, HB⟩ := HS
  go_wp2
  go_ret
  exact ⟨by rw [HE.out]; rfl, HB.out⟩

set_option maxRecDepth 100000 in
set_option maxHeartbeats 4000000 in
theorem pCheck_ok (x : PPr) (a : Option Addr) (n cap : Nat) (ts : List Int) (w : World) (hn : ts.length = n) (h4 : n ≤ 65536) (hr : RdI .i64 w a ts) (hk : kindB x.kind = true) (hh : hasB x n = true) (hv : askV x.kind = true) (ho : askO x.kind = false) (hq : okV x.val = false) :
    Calls Try.prog 11 #[.agg (cellsP x), .slice a n cap] w fun e w' => e = .returned (.int .i64 (chkP x ts)) ∧ Below w.heap.size w w' := by
  have HN : Hid (ts.length = n) := hn
  have HR : Hid (RdI .i64 w a ts) := hr
  clear hn hr
  have HE : Hid (chkP x ts = 1) := chkP_ok hv hq
  obtain ⟨k, c, o, vk, vi, vs⟩ := x
  try simp only at hk hh hv ho hq
  simp only [cellsP]
  have HC : Hid (chkV ⟨vk, vi, vs⟩ = 1) := by show _ = _; simp [chkV, hq]
  clear hq
  have CH := pHas_any ⟨k, c, o, vk, vi, vs⟩ n
  rw [hh] at CH
  simp only [cellsP] at CH
  have CV := pAskV_any k
  have CO := pAskO_any k
  rw [hv] at CV
  rw [ho] at CO
  have CK := pKind_any k
  rw [hk] at CK
  go_enter Try.func11, Try.ntmps11
  go_upto_region 1 with fail
  have HS : (w.alloc (.cells #[.int .i64 k, .int .i64 c, .int .i64 o, .int .i64 vk, .int .i64 vi, .string vs] 25)).cell? ⟨w.heap.size, 0, none⟩ = some (.int .i64 k) ∧ (w.alloc (.cells #[.int .i64 k, .int .i64 c, .int .i64 o, .int .i64 vk, .int .i64 vi, .string vs] 25)).cell? ⟨w.heap.size, 1, none⟩ = some (.int .i64 c) ∧ (w.alloc (.cells #[.int .i64 k, .int .i64 c, .int .i64 o, .int .i64 vk, .int .i64 vi, .string vs] 25)).cell? ⟨w.heap.size, 2, none⟩ = some (.int .i64 o) ∧ (w.alloc (.cells #[.int .i64 k, .int .i64 c, .int .i64 o, .int .i64 vk, .int .i64 vi, .string vs] 25)).cell? ⟨w.heap.size, 3, none⟩ = some (.int .i64 vk) ∧ (w.alloc (.cells #[.int .i64 k, .int .i64 c, .int .i64 o, .int .i64 vk, .int .i64 vi, .string vs] 25)).cell? ⟨w.heap.size, 4, none⟩ = some (.int .i64 vi) ∧ (w.alloc (.cells #[.int .i64 k, .int .i64 c, .int .i64 o, .int .i64 vk, .int .i64 vi, .string vs] 25)).cell? ⟨w.heap.size, 5, none⟩ = some (.string vs) ∧ Hid (Below w.heap.size w (w.alloc (.cells #[.int .i64 k, .int .i64 c, .int .i64 o, .int .i64 vk, .int .i64 vi, .string vs] 25))) := by
    obtain ⟨c0, c1, c2, c3, c4, c5⟩ := box6 (Below.refl (w.alloc (.cells #[.int .i64 k, .int .i64 c, .int .i64 o, .int .i64 vk, .int .i64 vi, .string vs] 25)).heap.size (w.alloc (.cells #[.int .i64 k, .int .i64 c, .int .i64 o, .int .i64 vk, .int .i64 vi, .string vs] 25)))
    exact ⟨c0, c1, c2, c3, c4, c5, alloc_below _ _⟩
  go_region_held3 (fun w' => w'.cell? ⟨w.heap.size, 0, none⟩ = some (.int .i64 k) ∧ w'.cell? ⟨w.heap.size, 1, none⟩ = some (.int .i64 c) ∧ w'.cell? ⟨w.heap.size, 2, none⟩ = some (.int .i64 o) ∧ w'.cell? ⟨w.heap.size, 3, none⟩ = some (.int .i64 vk) ∧ w'.cell? ⟨w.heap.size, 4, none⟩ = some (.int .i64 vi) ∧ w'.cell? ⟨w.heap.size, 5, none⟩ = some (.string vs) ∧ Hid (Below w.heap.size w w')) (first | exact keepP6 (by assumption) (by assumption) | exact keepP6 (Below.refl _ _).drew (by assumption)) (first | (go_at_call 21; refine (CV _).mono ?_; rintro e w' ⟨rfl, hb⟩) | (go_at_call 22; refine (CO _).mono ?_; rintro e w' ⟨rfl, hb⟩))
  have HS1 : w'.cell? ⟨w.heap.size, 0, none⟩ = some (.int .i64 k) ∧ w'.cell? ⟨w.heap.size, 1, none⟩ = some (.int .i64 c) ∧ w'.cell? ⟨w.heap.size, 2, none⟩ = some (.int .i64 o) ∧ w'.cell? ⟨w.heap.size, 3, none⟩ = some (.int .i64 vk) ∧ w'.cell? ⟨w.heap.size, 4, none⟩ = some (.int .i64 vi) ∧ w'.cell? ⟨w.heap.size, 5, none⟩ = some (.string vs) ∧ Hid (Below w.heap.size w w') := by assumption
  clear HS CV CO
  rename World => w2
  obtain ⟨c0, c1, c2, c3, c4, c5, HB⟩ := HS1
  go_wp2_with fail
  refine (CK _).mono ?_
  rintro e w3 ⟨rfl, hb⟩
  have HS : w3.cell? ⟨w.heap.size, 0, none⟩ = some (.int .i64 k) ∧ w3.cell? ⟨w.heap.size, 1, none⟩ = some (.int .i64 c) ∧ w3.cell? ⟨w.heap.size, 2, none⟩ = some (.int .i64 o) ∧ w3.cell? ⟨w.heap.size, 3, none⟩ = some (.int .i64 vk) ∧ w3.cell? ⟨w.heap.size, 4, none⟩ = some (.int .i64 vi) ∧ w3.cell? ⟨w.heap.size, 5, none⟩ = some (.string vs) ∧ Hid (Below w.heap.size w w3) := keepP6 hb ⟨c0, c1, c2, c3, c4, c5, HB⟩
  clear c0 c1 c2 c3 c4 c5 HB hb CK
  obtain ⟨c0, c1, c2, c3, c4, c5, HB⟩ := HS
  go_wp2_with fail
  refine (CH _).mono ?_
  rintro e w4 ⟨rfl, hb⟩
  have HS : w4.cell? ⟨w.heap.size, 0, none⟩ = some (.int .i64 k) ∧ w4.cell? ⟨w.heap.size, 1, none⟩ = some (.int .i64 c) ∧ w4.cell? ⟨w.heap.size, 2, none⟩ = some (.int .i64 o) ∧ w4.cell? ⟨w.heap.size, 3, none⟩ = some (.int .i64 vk) ∧ w4.cell? ⟨w.heap.size, 4, none⟩ = some (.int .i64 vi) ∧ w4.cell? ⟨w.heap.size, 5, none⟩ = some (.string vs) ∧ Hid (Below w.heap.size w w4) := keepP6 hb ⟨c0, c1, c2, c3, c4, c5, HB⟩
  clear c0 c1 c2 c3 c4 c5 HB hb CH
  obtain ⟨c0, c1, c2, c3, c4, c5, HB⟩ := HS
  go_wp2_with fail
  refine (valueCheck _ _ _ _).mono ?_
  rintro e w5 ⟨rfl, hb⟩
  rw [HC.out]
  have HS : w5.cell? ⟨w.heap.size, 0, none⟩ = some (.int .i64 k) ∧ w5.cell? ⟨w.heap.size, 1, none⟩ = some (.int .i64 c) ∧ w5.cell? ⟨w.heap.size, 2, none⟩ = some (.int .i64 o) ∧ w5.cell? ⟨w.heap.size, 3, none⟩ = some (.int .i64 vk) ∧ w5.cell? ⟨w.heap.size, 4, none⟩ = some (.int .i64 vi) ∧ w5.cell? ⟨w.heap.size, 5, none⟩ = some (.string vs) ∧ Hid (Below w.heap.size w w5) := keepP6 hb ⟨c0, c1, c2, c3, c4, c5, HB⟩
  clear c0 c1 c2 c3 c4 c5 HB hb
  obtain ⟨c0, c1, c2, c3, c4, c5, HB⟩ := HS
  go_wp2
  go_ret
  exact ⟨by rw [HE.out]; rfl, HB.out⟩

set_option maxRecDepth 100000 in
set_option maxHeartbeats 4000000 in
theorem pCheck_val_true (x : PPr) (a : Option Addr) (n cap : Nat) (ts : List Int) (w : World) (hn : ts.length = n) (h4 : n ≤ 65536) (hr : RdI .i64 w a ts) (hk : kindB x.kind = true) (hh : hasB x n = true) (hv : askV x.kind = true) (ho : askO x.kind = false) (hq : okV x.val = true) (hf : fitsV x.val (atI ts x.col) = true) :
    Calls Try.prog 11 #[.agg (cellsP x), .slice a n cap] w fun e w' => e = .returned (.int .i64 (chkP x ts)) ∧ Below w.heap.size w w' := by
  have HN : Hid (ts.length = n) := hn
  have HR : Hid (RdI .i64 w a ts) := hr
  clear hn hr
  have HE : Hid (chkP x ts = if fitsV x.val (atI ts x.col) = true then 0 else 10) := chkP_val hk (by rw [HN.out]; exact hh) hv ho hq
  rw [hf] at HE
  obtain ⟨i, hi, hin⟩ := has_col hh
  have hil : i < ts.length := by rw [HN.out]; exact hin
  obtain ⟨b, off, rfl, hc⟩ := HR.out (by omega)
  have y0 := hc i hil
  rw [hi, atI_nat ts i hil] at hf
  have i0 : (0 : Int) ≤ (i : Int) := by omega
  have i1 : (i : Int) < (n : Int) := by omega
  generalize ts[i] = ty at *
  clear hc hil HR
  obtain ⟨k, c, o, vk, vi, vs⟩ := x
  try simp only at hk hh hv ho hq hi hf
  simp only [cellsP]
  subst hi
  have CF := valueFits vk vi vs ty
  rw [hf] at CF
  have HC : Hid (chkV ⟨vk, vi, vs⟩ = 0) := by show _ = _; simp [chkV, hq]
  clear hq hf
  have CH := pHas_any ⟨k, (i : Int), o, vk, vi, vs⟩ n
  rw [hh] at CH
  simp only [cellsP] at CH
  have CV := pAskV_any k
  have CO := pAskO_any k
  rw [hv] at CV
  rw [ho] at CO
  have CK := pKind_any k
  rw [hk] at CK
  go_enter Try.func11, Try.ntmps11
  go_upto_region 1 with fail
  have HS : (w.alloc (.cells #[.int .i64 k, .int .i64 i, .int .i64 o, .int .i64 vk, .int .i64 vi, .string vs] 25)).cell? ⟨w.heap.size, 0, none⟩ = some (.int .i64 k) ∧ (w.alloc (.cells #[.int .i64 k, .int .i64 i, .int .i64 o, .int .i64 vk, .int .i64 vi, .string vs] 25)).cell? ⟨w.heap.size, 1, none⟩ = some (.int .i64 i) ∧ (w.alloc (.cells #[.int .i64 k, .int .i64 i, .int .i64 o, .int .i64 vk, .int .i64 vi, .string vs] 25)).cell? ⟨w.heap.size, 2, none⟩ = some (.int .i64 o) ∧ (w.alloc (.cells #[.int .i64 k, .int .i64 i, .int .i64 o, .int .i64 vk, .int .i64 vi, .string vs] 25)).cell? ⟨w.heap.size, 3, none⟩ = some (.int .i64 vk) ∧ (w.alloc (.cells #[.int .i64 k, .int .i64 i, .int .i64 o, .int .i64 vk, .int .i64 vi, .string vs] 25)).cell? ⟨w.heap.size, 4, none⟩ = some (.int .i64 vi) ∧ (w.alloc (.cells #[.int .i64 k, .int .i64 i, .int .i64 o, .int .i64 vk, .int .i64 vi, .string vs] 25)).cell? ⟨w.heap.size, 5, none⟩ = some (.string vs) ∧ Hid (Below w.heap.size w (w.alloc (.cells #[.int .i64 k, .int .i64 i, .int .i64 o, .int .i64 vk, .int .i64 vi, .string vs] 25))) := by
    obtain ⟨c0, c1, c2, c3, c4, c5⟩ := box6 (Below.refl (w.alloc (.cells #[.int .i64 k, .int .i64 i, .int .i64 o, .int .i64 vk, .int .i64 vi, .string vs] 25)).heap.size (w.alloc (.cells #[.int .i64 k, .int .i64 i, .int .i64 o, .int .i64 vk, .int .i64 vi, .string vs] 25)))
    exact ⟨c0, c1, c2, c3, c4, c5, alloc_below _ _⟩
  go_region_held3 (fun w' => w'.cell? ⟨w.heap.size, 0, none⟩ = some (.int .i64 k) ∧ w'.cell? ⟨w.heap.size, 1, none⟩ = some (.int .i64 i) ∧ w'.cell? ⟨w.heap.size, 2, none⟩ = some (.int .i64 o) ∧ w'.cell? ⟨w.heap.size, 3, none⟩ = some (.int .i64 vk) ∧ w'.cell? ⟨w.heap.size, 4, none⟩ = some (.int .i64 vi) ∧ w'.cell? ⟨w.heap.size, 5, none⟩ = some (.string vs) ∧ Hid (Below w.heap.size w w')) (first | exact keepP6 (by assumption) (by assumption) | exact keepP6 (Below.refl _ _).drew (by assumption)) (first | (go_at_call 21; refine (CV _).mono ?_; rintro e w' ⟨rfl, hb⟩) | (go_at_call 22; refine (CO _).mono ?_; rintro e w' ⟨rfl, hb⟩))
  have HS1 : w'.cell? ⟨w.heap.size, 0, none⟩ = some (.int .i64 k) ∧ w'.cell? ⟨w.heap.size, 1, none⟩ = some (.int .i64 i) ∧ w'.cell? ⟨w.heap.size, 2, none⟩ = some (.int .i64 o) ∧ w'.cell? ⟨w.heap.size, 3, none⟩ = some (.int .i64 vk) ∧ w'.cell? ⟨w.heap.size, 4, none⟩ = some (.int .i64 vi) ∧ w'.cell? ⟨w.heap.size, 5, none⟩ = some (.string vs) ∧ Hid (Below w.heap.size w w') := by assumption
  clear HS CV CO
  rename World => w2
  obtain ⟨c0, c1, c2, c3, c4, c5, HB⟩ := HS1
  go_wp2_with fail
  refine (CK _).mono ?_
  rintro e w3 ⟨rfl, hb⟩
  have HS : w3.cell? ⟨w.heap.size, 0, none⟩ = some (.int .i64 k) ∧ w3.cell? ⟨w.heap.size, 1, none⟩ = some (.int .i64 i) ∧ w3.cell? ⟨w.heap.size, 2, none⟩ = some (.int .i64 o) ∧ w3.cell? ⟨w.heap.size, 3, none⟩ = some (.int .i64 vk) ∧ w3.cell? ⟨w.heap.size, 4, none⟩ = some (.int .i64 vi) ∧ w3.cell? ⟨w.heap.size, 5, none⟩ = some (.string vs) ∧ Hid (Below w.heap.size w w3) := keepP6 hb ⟨c0, c1, c2, c3, c4, c5, HB⟩
  clear c0 c1 c2 c3 c4 c5 HB hb CK
  obtain ⟨c0, c1, c2, c3, c4, c5, HB⟩ := HS
  go_wp2_with fail
  refine (CH _).mono ?_
  rintro e w4 ⟨rfl, hb⟩
  have HS : w4.cell? ⟨w.heap.size, 0, none⟩ = some (.int .i64 k) ∧ w4.cell? ⟨w.heap.size, 1, none⟩ = some (.int .i64 i) ∧ w4.cell? ⟨w.heap.size, 2, none⟩ = some (.int .i64 o) ∧ w4.cell? ⟨w.heap.size, 3, none⟩ = some (.int .i64 vk) ∧ w4.cell? ⟨w.heap.size, 4, none⟩ = some (.int .i64 vi) ∧ w4.cell? ⟨w.heap.size, 5, none⟩ = some (.string vs) ∧ Hid (Below w.heap.size w w4) := keepP6 hb ⟨c0, c1, c2, c3, c4, c5, HB⟩
  clear c0 c1 c2 c3 c4 c5 HB hb CH
  obtain ⟨c0, c1, c2, c3, c4, c5, HB⟩ := HS
  go_wp2_with fail
  refine (valueCheck _ _ _ _).mono ?_
  rintro e w5 ⟨rfl, hb⟩
  rw [HC.out]
  have HS : w5.cell? ⟨w.heap.size, 0, none⟩ = some (.int .i64 k) ∧ w5.cell? ⟨w.heap.size, 1, none⟩ = some (.int .i64 i) ∧ w5.cell? ⟨w.heap.size, 2, none⟩ = some (.int .i64 o) ∧ w5.cell? ⟨w.heap.size, 3, none⟩ = some (.int .i64 vk) ∧ w5.cell? ⟨w.heap.size, 4, none⟩ = some (.int .i64 vi) ∧ w5.cell? ⟨w.heap.size, 5, none⟩ = some (.string vs) ∧ Hid (Below w.heap.size w w5) := keepP6 hb ⟨c0, c1, c2, c3, c4, c5, HB⟩
  clear c0 c1 c2 c3 c4 c5 HB hb
  obtain ⟨c0, c1, c2, c3, c4, c5, HB⟩ := HS
  go_upto_region 4 with fail
  have HS : w5.cell? ⟨w.heap.size, 0, none⟩ = some (.int .i64 k) ∧ w5.cell? ⟨w.heap.size, 1, none⟩ = some (.int .i64 i) ∧ w5.cell? ⟨w.heap.size, 2, none⟩ = some (.int .i64 o) ∧ w5.cell? ⟨w.heap.size, 3, none⟩ = some (.int .i64 vk) ∧ w5.cell? ⟨w.heap.size, 4, none⟩ = some (.int .i64 vi) ∧ w5.cell? ⟨w.heap.size, 5, none⟩ = some (.string vs) ∧ w5.cell? ⟨b, off + i, none⟩ = some (.int .i64 ty) ∧ Hid (Below w.heap.size w w5) := ⟨c0, c1, c2, c3, c4, c5, cell_later HB.out y0, HB⟩
  have HS : w5.drew.cell? ⟨w.heap.size, 0, none⟩ = some (.int .i64 k) ∧ w5.drew.cell? ⟨w.heap.size, 1, none⟩ = some (.int .i64 i) ∧ w5.drew.cell? ⟨w.heap.size, 2, none⟩ = some (.int .i64 o) ∧ w5.drew.cell? ⟨w.heap.size, 3, none⟩ = some (.int .i64 vk) ∧ w5.drew.cell? ⟨w.heap.size, 4, none⟩ = some (.int .i64 vi) ∧ w5.drew.cell? ⟨w.heap.size, 5, none⟩ = some (.string vs) ∧ w5.drew.cell? ⟨b, off + i, none⟩ = some (.int .i64 ty) ∧ Hid (Below w.heap.size w w5.drew) := keepP7 (Below.refl _ _).drew HS
  clear c0 c1 c2 c3 c4 c5 y0 HB
  refine wp_region_held_drew (S := (fun w' => w'.cell? ⟨w.heap.size, 0, none⟩ = some (.int .i64 k) ∧ w'.cell? ⟨w.heap.size, 1, none⟩ = some (.int .i64 i) ∧ w'.cell? ⟨w.heap.size, 2, none⟩ = some (.int .i64 o) ∧ w'.cell? ⟨w.heap.size, 3, none⟩ = some (.int .i64 vk) ∧ w'.cell? ⟨w.heap.size, 4, none⟩ = some (.int .i64 vi) ∧ w'.cell? ⟨w.heap.size, 5, none⟩ = some (.string vs) ∧ w'.cell? ⟨b, off + i, none⟩ = some (.int .i64 ty) ∧ Hid (Below w.heap.size w w'))) (by kernel_rfl) HS (fun hHeld => ?_)
  refine heldTake (v := ?_) 0 33 rfl rfl (by kernel_rfl) (by kernel_rfl) (by kernel_rfl) (fun _ _ _ h => h) (by rfl) (fun w hSw => ?_) (by assumption) ?_
  rotate_left
  · (try dsimp only at hSw); first | (go_simp; done) | (go_simp; with_reducible rfl)
  simp only [List.setIfInBounds_toArray, List.set_cons_zero, List.set_cons_succ]
  refine heldTake (v := ?_) 1 34 rfl rfl (by kernel_rfl) (by kernel_rfl) (by kernel_rfl) (fun _ _ _ h => h) (by rfl) (fun w hSw => ?_) (by assumption) ?_
  rotate_left
  · (try dsimp only at hSw); first | (go_simp; done) | (go_simp; with_reducible rfl)
  simp only [List.setIfInBounds_toArray, List.set_cons_zero, List.set_cons_succ]
  refine heldTake (v := ?_) 2 35 rfl rfl (by kernel_rfl) (by kernel_rfl) (by kernel_rfl) (fun _ _ _ h => h) (by rfl) (fun w hSw => ?_) (by assumption) ?_
  rotate_left
  · (try dsimp only at hSw); first | (go_simp; done) | (go_simp; with_reducible rfl)
  simp only [List.setIfInBounds_toArray, List.set_cons_zero, List.set_cons_succ]
  refine heldTake (v := ?_) 3 36 rfl rfl (by kernel_rfl) (by kernel_rfl) (by kernel_rfl) (fun _ _ _ h => h) (by rfl) (fun w hSw => ?_) (by assumption) ?_
  rotate_left
  · (try dsimp only at hSw); first | (go_simp; done) | (go_simp; with_reducible rfl)
  simp only [List.setIfInBounds_toArray, List.set_cons_zero, List.set_cons_succ]
  refine heldTake (v := ?_) 4 37 rfl rfl (by kernel_rfl) (by kernel_rfl) (by kernel_rfl) (fun _ _ _ h => h) (by rfl) (fun w hSw => ?_) (by assumption) ?_
  rotate_left
  · (try dsimp only at hSw); first | (go_simp; done) | (go_simp; with_reducible rfl)
  simp only [List.setIfInBounds_toArray, List.set_cons_zero, List.set_cons_succ]
  refine heldTake (v := ?_) 5 38 rfl rfl (by kernel_rfl) (by kernel_rfl) (by kernel_rfl) (fun _ _ _ h => h) (by rfl) (fun w hSw => ?_) (by assumption) ?_
  rotate_left
  · (try dsimp only at hSw); first | (go_simp; done) | (go_simp; with_reducible rfl)
  simp only [List.setIfInBounds_toArray, List.set_cons_zero, List.set_cons_succ]
  refine heldTake (v := ?_) 6 39 rfl rfl (by kernel_rfl) (by kernel_rfl) (by kernel_rfl) (fun _ _ _ h => h) (by rfl) (fun w hSw => ?_) (by assumption) ?_
  rotate_left
  · (try dsimp only at hSw); first | (go_simp; done) | (go_simp; with_reducible rfl)
  simp only [List.setIfInBounds_toArray, List.set_cons_zero, List.set_cons_succ]
  refine heldTake (v := ?_) 7 40 rfl rfl (by kernel_rfl) (by kernel_rfl) (by kernel_rfl) (fun _ _ _ h => h) (by rfl) (fun w hSw => ?_) (by assumption) ?_
  rotate_left
  · (try dsimp only at hSw); first | (go_simp; done) | (go_simp; with_reducible rfl)
  simp only [List.setIfInBounds_toArray, List.set_cons_zero, List.set_cons_succ]
  refine heldTake (v := ?_) 8 41 rfl rfl (by kernel_rfl) (by kernel_rfl) (by kernel_rfl) (fun _ _ _ h => h) (by rfl) (fun w hSw => ?_) (by assumption) ?_
  rotate_left
  · (try dsimp only at hSw); first | (go_simp; done) | (go_simp; with_reducible rfl)
  simp only [List.setIfInBounds_toArray, List.set_cons_zero, List.set_cons_succ]
  refine heldOne 9 rfl (by kernel_rfl) (by rfl) (fun K2 hK => ?_)
  go_simp
  refine (CF _).mono ?_
  rintro e wz ⟨rfl, hb⟩
  simp only []
  refine hK.out _ _ ?_ (fun hHeld => ?_)
  · first | exact keepP7 (by assumption) (by assumption) | exact keepP7 (Below.refl _ _).drew (by assumption)
  clear hK K2
  try simp only [List.setIfInBounds_toArray, List.set_cons_zero, List.set_cons_succ]
  refine heldTake (v := ?_) 10 43 rfl rfl (by kernel_rfl) (by kernel_rfl) (by kernel_rfl) (fun _ _ _ h => h) (by rfl) (fun w hSw => ?_) (by assumption) ?_
  rotate_left
  · (try dsimp only at hSw); first | (go_simp; done) | (go_simp; with_reducible rfl)
  simp only [List.setIfInBounds_toArray, List.set_cons_zero, List.set_cons_succ]
  refine heldTake (v := ?_) 11 44 rfl rfl (by kernel_rfl) (by kernel_rfl) (by kernel_rfl) (fun _ _ _ h => h) (by rfl) (fun w hSw => ?_) (by assumption) ?_
  rotate_left
  · (try dsimp only at hSw); first | (go_simp; done) | (go_simp; with_reducible rfl)
  simp only [List.setIfInBounds_toArray, List.set_cons_zero, List.set_cons_succ]
  refine heldTake (v := ?_) 12 45 rfl rfl (by kernel_rfl) (by kernel_rfl) (by kernel_rfl) (fun _ _ _ h => h) (by rfl) (fun w hSw => ?_) (by assumption) ?_
  rotate_left
  · (try dsimp only at hSw); first | (go_simp; done) | (go_simp; with_reducible rfl)
  simp only [List.setIfInBounds_toArray, List.set_cons_zero, List.set_cons_succ]
  refine heldTake (v := ?_) 13 46 rfl rfl (by kernel_rfl) (by kernel_rfl) (by kernel_rfl) (fun _ _ _ h => h) (by rfl) (fun w hSw => ?_) (by assumption) ?_
  rotate_left
  · (try dsimp only at hSw); first | (go_simp; done) | (go_simp; with_reducible rfl)
  simp only [List.setIfInBounds_toArray, List.set_cons_zero, List.set_cons_succ]
  refine heldTake (v := ?_) 14 47 rfl rfl (by kernel_rfl) (by kernel_rfl) (by kernel_rfl) (fun _ _ _ h => h) (by rfl) (fun w hSw => ?_) (by assumption) ?_
  rotate_left
  · (try dsimp only at hSw); first | (go_simp; done) | (go_simp; with_reducible rfl)
  simp only [List.setIfInBounds_toArray, List.set_cons_zero, List.set_cons_succ]
  refine heldSkip 15 48 rfl rfl (by kernel_rfl) (by kernel_rfl) (by kernel_rfl) (fun _ _ _ h => h) (by rfl) (by assumption) ?_
  simp only [List.setIfInBounds_toArray, List.set_cons_zero, List.set_cons_succ]
  refine heldSkip 16 49 rfl rfl (by kernel_rfl) (by kernel_rfl) (by kernel_rfl) (fun _ _ _ h => h) (by rfl) (by assumption) ?_
  simp only [List.setIfInBounds_toArray, List.set_cons_zero, List.set_cons_succ]
  refine heldSkip 17 50 rfl rfl (by kernel_rfl) (by kernel_rfl) (by kernel_rfl) (fun _ _ _ h => h) (by rfl) (by assumption) ?_
  simp only [List.setIfInBounds_toArray, List.set_cons_zero, List.set_cons_succ]
  refine heldSkip 18 51 rfl rfl (by kernel_rfl) (by kernel_rfl) (by kernel_rfl) (fun _ _ _ h => h) (by rfl) (by assumption) ?_
  simp only [List.setIfInBounds_toArray, List.set_cons_zero, List.set_cons_succ]
  refine heldSkip 19 52 rfl rfl (by kernel_rfl) (by kernel_rfl) (by kernel_rfl) (fun _ _ _ h => h) (by rfl) (by assumption) ?_
  simp only [List.setIfInBounds_toArray, List.set_cons_zero, List.set_cons_succ]
  refine heldSkip 20 53 rfl rfl (by kernel_rfl) (by kernel_rfl) (by kernel_rfl) (fun _ _ _ h => h) (by rfl) (by assumption) ?_
  simp only [List.setIfInBounds_toArray, List.set_cons_zero, List.set_cons_succ]
  refine heldSkip 21 54 rfl rfl (by kernel_rfl) (by kernel_rfl) (by kernel_rfl) (fun _ _ _ h => h) (by rfl) (by assumption) ?_
  simp only [List.setIfInBounds_toArray, List.set_cons_zero, List.set_cons_succ]
  refine heldSkip 22 55 rfl rfl (by kernel_rfl) (by kernel_rfl) (by kernel_rfl) (fun _ _ _ h => h) (by rfl) (by assumption) ?_
  simp only [List.setIfInBounds_toArray, List.set_cons_zero, List.set_cons_succ]
  refine heldSkip 23 56 rfl rfl (by kernel_rfl) (by kernel_rfl) (by kernel_rfl) (fun _ _ _ h => h) (by rfl) (by assumption) ?_
  simp only [List.setIfInBounds_toArray, List.set_cons_zero, List.set_cons_succ]
  refine heldSkip 24 57 rfl rfl (by kernel_rfl) (by kernel_rfl) (by kernel_rfl) (fun _ _ _ h => h) (by rfl) (by assumption) ?_
  simp only [List.setIfInBounds_toArray, List.set_cons_zero, List.set_cons_succ]
  refine heldSkip 25 58 rfl rfl (by kernel_rfl) (by kernel_rfl) (by kernel_rfl) (fun _ _ _ h => h) (by rfl) (by assumption) ?_
  simp only [List.setIfInBounds_toArray, List.set_cons_zero, List.set_cons_succ]
  refine heldTake (v := ?_) 26 59 rfl rfl (by kernel_rfl) (by kernel_rfl) (by kernel_rfl) (fun _ _ _ h => h) (by rfl) (fun w hSw => ?_) (by assumption) ?_
  rotate_left
  · (try dsimp only at hSw); first | (go_simp; done) | (go_simp; with_reducible rfl)
  simp only [List.setIfInBounds_toArray, List.set_cons_zero, List.set_cons_succ]
  refine heldTake (v := ?_) 27 60 rfl rfl (by kernel_rfl) (by kernel_rfl) (by kernel_rfl) (fun _ _ _ h => h) (by rfl) (fun w hSw => ?_) (by assumption) ?_
  rotate_left
  · (try dsimp only at hSw); first | (go_simp; done) | (go_simp; with_reducible rfl)
  simp only [List.setIfInBounds_toArray, List.set_cons_zero, List.set_cons_succ]
  refine wpAnyH_done (by kernel_rfl) ?_ _
  have HB9 : Hid (Below w.heap.size w _) := hHeld.2.2.2.2.2.2.2
  clear hHeld HS
  go_wp2
  go_ret
  exact ⟨by rw [HE.out]; rfl, HB9.out⟩

set_option maxRecDepth 100000 in
set_option maxHeartbeats 4000000 in
theorem pCheck_val_false (x : PPr) (a : Option Addr) (n cap : Nat) (ts : List Int) (w : World) (hn : ts.length = n) (h4 : n ≤ 65536) (hr : RdI .i64 w a ts) (hk : kindB x.kind = true) (hh : hasB x n = true) (hv : askV x.kind = true) (ho : askO x.kind = false) (hq : okV x.val = true) (hf : fitsV x.val (atI ts x.col) = false) :
    Calls Try.prog 11 #[.agg (cellsP x), .slice a n cap] w fun e w' => e = .returned (.int .i64 (chkP x ts)) ∧ Below w.heap.size w w' := by
  have HN : Hid (ts.length = n) := hn
  have HR : Hid (RdI .i64 w a ts) := hr
  clear hn hr
  have HE : Hid (chkP x ts = if fitsV x.val (atI ts x.col) = true then 0 else 10) := chkP_val hk (by rw [HN.out]; exact hh) hv ho hq
  rw [hf] at HE
  obtain ⟨i, hi, hin⟩ := has_col hh
  have hil : i < ts.length := by rw [HN.out]; exact hin
  obtain ⟨b, off, rfl, hc⟩ := HR.out (by omega)
  have y0 := hc i hil
  rw [hi, atI_nat ts i hil] at hf
  have i0 : (0 : Int) ≤ (i : Int) := by omega
  have i1 : (i : Int) < (n : Int) := by omega
  generalize ts[i] = ty at *
  clear hc hil HR
  obtain ⟨k, c, o, vk, vi, vs⟩ := x
  try simp only at hk hh hv ho hq hi hf
  simp only [cellsP]
  subst hi
  have CF := valueFits vk vi vs ty
  rw [hf] at CF
  have HC : Hid (chkV ⟨vk, vi, vs⟩ = 0) := by show _ = _; simp [chkV, hq]
  clear hq hf
  have CH := pHas_any ⟨k, (i : Int), o, vk, vi, vs⟩ n
  rw [hh] at CH
  simp only [cellsP] at CH
  have CV := pAskV_any k
  have CO := pAskO_any k
  rw [hv] at CV
  rw [ho] at CO
  have CK := pKind_any k
  rw [hk] at CK
  go_enter Try.func11, Try.ntmps11
  go_upto_region 1 with fail
  have HS : (w.alloc (.cells #[.int .i64 k, .int .i64 i, .int .i64 o, .int .i64 vk, .int .i64 vi, .string vs] 25)).cell? ⟨w.heap.size, 0, none⟩ = some (.int .i64 k) ∧ (w.alloc (.cells #[.int .i64 k, .int .i64 i, .int .i64 o, .int .i64 vk, .int .i64 vi, .string vs] 25)).cell? ⟨w.heap.size, 1, none⟩ = some (.int .i64 i) ∧ (w.alloc (.cells #[.int .i64 k, .int .i64 i, .int .i64 o, .int .i64 vk, .int .i64 vi, .string vs] 25)).cell? ⟨w.heap.size, 2, none⟩ = some (.int .i64 o) ∧ (w.alloc (.cells #[.int .i64 k, .int .i64 i, .int .i64 o, .int .i64 vk, .int .i64 vi, .string vs] 25)).cell? ⟨w.heap.size, 3, none⟩ = some (.int .i64 vk) ∧ (w.alloc (.cells #[.int .i64 k, .int .i64 i, .int .i64 o, .int .i64 vk, .int .i64 vi, .string vs] 25)).cell? ⟨w.heap.size, 4, none⟩ = some (.int .i64 vi) ∧ (w.alloc (.cells #[.int .i64 k, .int .i64 i, .int .i64 o, .int .i64 vk, .int .i64 vi, .string vs] 25)).cell? ⟨w.heap.size, 5, none⟩ = some (.string vs) ∧ Hid (Below w.heap.size w (w.alloc (.cells #[.int .i64 k, .int .i64 i, .int .i64 o, .int .i64 vk, .int .i64 vi, .string vs] 25))) := by
    obtain ⟨c0, c1, c2, c3, c4, c5⟩ := box6 (Below.refl (w.alloc (.cells #[.int .i64 k, .int .i64 i, .int .i64 o, .int .i64 vk, .int .i64 vi, .string vs] 25)).heap.size (w.alloc (.cells #[.int .i64 k, .int .i64 i, .int .i64 o, .int .i64 vk, .int .i64 vi, .string vs] 25)))
    exact ⟨c0, c1, c2, c3, c4, c5, alloc_below _ _⟩
  go_region_held3 (fun w' => w'.cell? ⟨w.heap.size, 0, none⟩ = some (.int .i64 k) ∧ w'.cell? ⟨w.heap.size, 1, none⟩ = some (.int .i64 i) ∧ w'.cell? ⟨w.heap.size, 2, none⟩ = some (.int .i64 o) ∧ w'.cell? ⟨w.heap.size, 3, none⟩ = some (.int .i64 vk) ∧ w'.cell? ⟨w.heap.size, 4, none⟩ = some (.int .i64 vi) ∧ w'.cell? ⟨w.heap.size, 5, none⟩ = some (.string vs) ∧ Hid (Below w.heap.size w w')) (first | exact keepP6 (by assumption) (by assumption) | exact keepP6 (Below.refl _ _).drew (by assumption)) (first | (go_at_call 21; refine (CV _).mono ?_; rintro e w' ⟨rfl, hb⟩) | (go_at_call 22; refine (CO _).mono ?_; rintro e w' ⟨rfl, hb⟩))
  have HS1 : w'.cell? ⟨w.heap.size, 0, none⟩ = some (.int .i64 k) ∧ w'.cell? ⟨w.heap.size, 1, none⟩ = some (.int .i64 i) ∧ w'.cell? ⟨w.heap.size, 2, none⟩ = some (.int .i64 o) ∧ w'.cell? ⟨w.heap.size, 3, none⟩ = some (.int .i64 vk) ∧ w'.cell? ⟨w.heap.size, 4, none⟩ = some (.int .i64 vi) ∧ w'.cell? ⟨w.heap.size, 5, none⟩ = some (.string vs) ∧ Hid (Below w.heap.size w w') := by assumption
  clear HS CV CO
  rename World => w2
  obtain ⟨c0, c1, c2, c3, c4, c5, HB⟩ := HS1
  go_wp2_with fail
  refine (CK _).mono ?_
  rintro e w3 ⟨rfl, hb⟩
  have HS : w3.cell? ⟨w.heap.size, 0, none⟩ = some (.int .i64 k) ∧ w3.cell? ⟨w.heap.size, 1, none⟩ = some (.int .i64 i) ∧ w3.cell? ⟨w.heap.size, 2, none⟩ = some (.int .i64 o) ∧ w3.cell? ⟨w.heap.size, 3, none⟩ = some (.int .i64 vk) ∧ w3.cell? ⟨w.heap.size, 4, none⟩ = some (.int .i64 vi) ∧ w3.cell? ⟨w.heap.size, 5, none⟩ = some (.string vs) ∧ Hid (Below w.heap.size w w3) := keepP6 hb ⟨c0, c1, c2, c3, c4, c5, HB⟩
  clear c0 c1 c2 c3 c4 c5 HB hb CK
  obtain ⟨c0, c1, c2, c3, c4, c5, HB⟩ := HS
  go_wp2_with fail
  refine (CH _).mono ?_
  rintro e w4 ⟨rfl, hb⟩
  have HS : w4.cell? ⟨w.heap.size, 0, none⟩ = some (.int .i64 k) ∧ w4.cell? ⟨w.heap.size, 1, none⟩ = some (.int .i64 i) ∧ w4.cell? ⟨w.heap.size, 2, none⟩ = some (.int .i64 o) ∧ w4.cell? ⟨w.heap.size, 3, none⟩ = some (.int .i64 vk) ∧ w4.cell? ⟨w.heap.size, 4, none⟩ = some (.int .i64 vi) ∧ w4.cell? ⟨w.heap.size, 5, none⟩ = some (.string vs) ∧ Hid (Below w.heap.size w w4) := keepP6 hb ⟨c0, c1, c2, c3, c4, c5, HB⟩
  clear c0 c1 c2 c3 c4 c5 HB hb CH
  obtain ⟨c0, c1, c2, c3, c4, c5, HB⟩ := HS
  go_wp2_with fail
  refine (valueCheck _ _ _ _).mono ?_
  rintro e w5 ⟨rfl, hb⟩
  rw [HC.out]
  have HS : w5.cell? ⟨w.heap.size, 0, none⟩ = some (.int .i64 k) ∧ w5.cell? ⟨w.heap.size, 1, none⟩ = some (.int .i64 i) ∧ w5.cell? ⟨w.heap.size, 2, none⟩ = some (.int .i64 o) ∧ w5.cell? ⟨w.heap.size, 3, none⟩ = some (.int .i64 vk) ∧ w5.cell? ⟨w.heap.size, 4, none⟩ = some (.int .i64 vi) ∧ w5.cell? ⟨w.heap.size, 5, none⟩ = some (.string vs) ∧ Hid (Below w.heap.size w w5) := keepP6 hb ⟨c0, c1, c2, c3, c4, c5, HB⟩
  clear c0 c1 c2 c3 c4 c5 HB hb
  obtain ⟨c0, c1, c2, c3, c4, c5, HB⟩ := HS
  go_upto_region 4 with fail
  have HS : w5.cell? ⟨w.heap.size, 0, none⟩ = some (.int .i64 k) ∧ w5.cell? ⟨w.heap.size, 1, none⟩ = some (.int .i64 i) ∧ w5.cell? ⟨w.heap.size, 2, none⟩ = some (.int .i64 o) ∧ w5.cell? ⟨w.heap.size, 3, none⟩ = some (.int .i64 vk) ∧ w5.cell? ⟨w.heap.size, 4, none⟩ = some (.int .i64 vi) ∧ w5.cell? ⟨w.heap.size, 5, none⟩ = some (.string vs) ∧ w5.cell? ⟨b, off + i, none⟩ = some (.int .i64 ty) ∧ Hid (Below w.heap.size w w5) := ⟨c0, c1, c2, c3, c4, c5, cell_later HB.out y0, HB⟩
  have HS : w5.drew.cell? ⟨w.heap.size, 0, none⟩ = some (.int .i64 k) ∧ w5.drew.cell? ⟨w.heap.size, 1, none⟩ = some (.int .i64 i) ∧ w5.drew.cell? ⟨w.heap.size, 2, none⟩ = some (.int .i64 o) ∧ w5.drew.cell? ⟨w.heap.size, 3, none⟩ = some (.int .i64 vk) ∧ w5.drew.cell? ⟨w.heap.size, 4, none⟩ = some (.int .i64 vi) ∧ w5.drew.cell? ⟨w.heap.size, 5, none⟩ = some (.string vs) ∧ w5.drew.cell? ⟨b, off + i, none⟩ = some (.int .i64 ty) ∧ Hid (Below w.heap.size w w5.drew) := keepP7 (Below.refl _ _).drew HS
  clear c0 c1 c2 c3 c4 c5 y0 HB
  refine wp_region_held_drew (S := (fun w' => w'.cell? ⟨w.heap.size, 0, none⟩ = some (.int .i64 k) ∧ w'.cell? ⟨w.heap.size, 1, none⟩ = some (.int .i64 i) ∧ w'.cell? ⟨w.heap.size, 2, none⟩ = some (.int .i64 o) ∧ w'.cell? ⟨w.heap.size, 3, none⟩ = some (.int .i64 vk) ∧ w'.cell? ⟨w.heap.size, 4, none⟩ = some (.int .i64 vi) ∧ w'.cell? ⟨w.heap.size, 5, none⟩ = some (.string vs) ∧ w'.cell? ⟨b, off + i, none⟩ = some (.int .i64 ty) ∧ Hid (Below w.heap.size w w'))) (by kernel_rfl) HS (fun hHeld => ?_)
  refine heldTake (v := ?_) 0 33 rfl rfl (by kernel_rfl) (by kernel_rfl) (by kernel_rfl) (fun _ _ _ h => h) (by rfl) (fun w hSw => ?_) (by assumption) ?_
  rotate_left
  · (try dsimp only at hSw); first | (go_simp; done) | (go_simp; with_reducible rfl)
  simp only [List.setIfInBounds_toArray, List.set_cons_zero, List.set_cons_succ]
  refine heldTake (v := ?_) 1 34 rfl rfl (by kernel_rfl) (by kernel_rfl) (by kernel_rfl) (fun _ _ _ h => h) (by rfl) (fun w hSw => ?_) (by assumption) ?_
  rotate_left
  · (try dsimp only at hSw); first | (go_simp; done) | (go_simp; with_reducible rfl)
  simp only [List.setIfInBounds_toArray, List.set_cons_zero, List.set_cons_succ]
  refine heldTake (v := ?_) 2 35 rfl rfl (by kernel_rfl) (by kernel_rfl) (by kernel_rfl) (fun _ _ _ h => h) (by rfl) (fun w hSw => ?_) (by assumption) ?_
  rotate_left
  · (try dsimp only at hSw); first | (go_simp; done) | (go_simp; with_reducible rfl)
  simp only [List.setIfInBounds_toArray, List.set_cons_zero, List.set_cons_succ]
  refine heldTake (v := ?_) 3 36 rfl rfl (by kernel_rfl) (by kernel_rfl) (by kernel_rfl) (fun _ _ _ h => h) (by rfl) (fun w hSw => ?_) (by assumption) ?_
  rotate_left
  · (try dsimp only at hSw); first | (go_simp; done) | (go_simp; with_reducible rfl)
  simp only [List.setIfInBounds_toArray, List.set_cons_zero, List.set_cons_succ]
  refine heldTake (v := ?_) 4 37 rfl rfl (by kernel_rfl) (by kernel_rfl) (by kernel_rfl) (fun _ _ _ h => h) (by rfl) (fun w hSw => ?_) (by assumption) ?_
  rotate_left
  · (try dsimp only at hSw); first | (go_simp; done) | (go_simp; with_reducible rfl)
  simp only [List.setIfInBounds_toArray, List.set_cons_zero, List.set_cons_succ]
  refine heldTake (v := ?_) 5 38 rfl rfl (by kernel_rfl) (by kernel_rfl) (by kernel_rfl) (fun _ _ _ h => h) (by rfl) (fun w hSw => ?_) (by assumption) ?_
  rotate_left
  · (try dsimp only at hSw); first | (go_simp; done) | (go_simp; with_reducible rfl)
  simp only [List.setIfInBounds_toArray, List.set_cons_zero, List.set_cons_succ]
  refine heldTake (v := ?_) 6 39 rfl rfl (by kernel_rfl) (by kernel_rfl) (by kernel_rfl) (fun _ _ _ h => h) (by rfl) (fun w hSw => ?_) (by assumption) ?_
  rotate_left
  · (try dsimp only at hSw); first | (go_simp; done) | (go_simp; with_reducible rfl)
  simp only [List.setIfInBounds_toArray, List.set_cons_zero, List.set_cons_succ]
  refine heldTake (v := ?_) 7 40 rfl rfl (by kernel_rfl) (by kernel_rfl) (by kernel_rfl) (fun _ _ _ h => h) (by rfl) (fun w hSw => ?_) (by assumption) ?_
  rotate_left
  · (try dsimp only at hSw); first | (go_simp; done) | (go_simp; with_reducible rfl)
  simp only [List.setIfInBounds_toArray, List.set_cons_zero, List.set_cons_succ]
  refine heldTake (v := ?_) 8 41 rfl rfl (by kernel_rfl) (by kernel_rfl) (by kernel_rfl) (fun _ _ _ h => h) (by rfl) (fun w hSw => ?_) (by assumption) ?_
  rotate_left
  · (try dsimp only at hSw); first | (go_simp; done) | (go_simp; with_reducible rfl)
  simp only [List.setIfInBounds_toArray, List.set_cons_zero, List.set_cons_succ]
  refine heldOne 9 rfl (by kernel_rfl) (by rfl) (fun K2 hK => ?_)
  go_simp
  refine (CF _).mono ?_
  rintro e wz ⟨rfl, hb⟩
  simp only []
  refine hK.out _ _ ?_ (fun hHeld => ?_)
  · first | exact keepP7 (by assumption) (by assumption) | exact keepP7 (Below.refl _ _).drew (by assumption)
  clear hK K2
  try simp only [List.setIfInBounds_toArray, List.set_cons_zero, List.set_cons_succ]
  refine heldTake (v := ?_) 10 43 rfl rfl (by kernel_rfl) (by kernel_rfl) (by kernel_rfl) (fun _ _ _ h => h) (by rfl) (fun w hSw => ?_) (by assumption) ?_
  rotate_left
  · (try dsimp only at hSw); first | (go_simp; done) | (go_simp; with_reducible rfl)
  simp only [List.setIfInBounds_toArray, List.set_cons_zero, List.set_cons_succ]
  refine heldTake (v := ?_) 11 44 rfl rfl (by kernel_rfl) (by kernel_rfl) (by kernel_rfl) (fun _ _ _ h => h) (by rfl) (fun w hSw => ?_) (by assumption) ?_
  rotate_left
  · (try dsimp only at hSw); first | (go_simp; done) | (go_simp; with_reducible rfl)
  simp only [List.setIfInBounds_toArray, List.set_cons_zero, List.set_cons_succ]
  refine heldTake (v := ?_) 12 45 rfl rfl (by kernel_rfl) (by kernel_rfl) (by kernel_rfl) (fun _ _ _ h => h) (by rfl) (fun w hSw => ?_) (by assumption) ?_
  rotate_left
  · (try dsimp only at hSw); first | (go_simp; done) | (go_simp; with_reducible rfl)
  simp only [List.setIfInBounds_toArray, List.set_cons_zero, List.set_cons_succ]
  refine heldSkip 13 46 rfl rfl (by kernel_rfl) (by kernel_rfl) (by kernel_rfl) (fun _ _ _ h => h) (by rfl) (by assumption) ?_
  simp only [List.setIfInBounds_toArray, List.set_cons_zero, List.set_cons_succ]
  refine heldSkip 14 47 rfl rfl (by kernel_rfl) (by kernel_rfl) (by kernel_rfl) (fun _ _ _ h => h) (by rfl) (by assumption) ?_
  simp only [List.setIfInBounds_toArray, List.set_cons_zero, List.set_cons_succ]
  refine heldSkip 15 48 rfl rfl (by kernel_rfl) (by kernel_rfl) (by kernel_rfl) (fun _ _ _ h => h) (by rfl) (by assumption) ?_
  simp only [List.setIfInBounds_toArray, List.set_cons_zero, List.set_cons_succ]
  refine heldSkip 16 49 rfl rfl (by kernel_rfl) (by kernel_rfl) (by kernel_rfl) (fun _ _ _ h => h) (by rfl) (by assumption) ?_
  simp only [List.setIfInBounds_toArray, List.set_cons_zero, List.set_cons_succ]
  refine heldSkip 17 50 rfl rfl (by kernel_rfl) (by kernel_rfl) (by kernel_rfl) (fun _ _ _ h => h) (by rfl) (by assumption) ?_
  simp only [List.setIfInBounds_toArray, List.set_cons_zero, List.set_cons_succ]
  refine heldSkip 18 51 rfl rfl (by kernel_rfl) (by kernel_rfl) (by kernel_rfl) (fun _ _ _ h => h) (by rfl) (by assumption) ?_
  simp only [List.setIfInBounds_toArray, List.set_cons_zero, List.set_cons_succ]
  refine heldSkip 19 52 rfl rfl (by kernel_rfl) (by kernel_rfl) (by kernel_rfl) (fun _ _ _ h => h) (by rfl) (by assumption) ?_
  simp only [List.setIfInBounds_toArray, List.set_cons_zero, List.set_cons_succ]
  refine heldSkip 20 53 rfl rfl (by kernel_rfl) (by kernel_rfl) (by kernel_rfl) (fun _ _ _ h => h) (by rfl) (by assumption) ?_
  simp only [List.setIfInBounds_toArray, List.set_cons_zero, List.set_cons_succ]
  refine heldSkip 21 54 rfl rfl (by kernel_rfl) (by kernel_rfl) (by kernel_rfl) (fun _ _ _ h => h) (by rfl) (by assumption) ?_
  simp only [List.setIfInBounds_toArray, List.set_cons_zero, List.set_cons_succ]
  refine heldSkip 22 55 rfl rfl (by kernel_rfl) (by kernel_rfl) (by kernel_rfl) (fun _ _ _ h => h) (by rfl) (by assumption) ?_
  simp only [List.setIfInBounds_toArray, List.set_cons_zero, List.set_cons_succ]
  refine heldSkip 23 56 rfl rfl (by kernel_rfl) (by kernel_rfl) (by kernel_rfl) (fun _ _ _ h => h) (by rfl) (by assumption) ?_
  simp only [List.setIfInBounds_toArray, List.set_cons_zero, List.set_cons_succ]
  refine heldSkip 24 57 rfl rfl (by kernel_rfl) (by kernel_rfl) (by kernel_rfl) (fun _ _ _ h => h) (by rfl) (by assumption) ?_
  simp only [List.setIfInBounds_toArray, List.set_cons_zero, List.set_cons_succ]
  refine heldSkip 25 58 rfl rfl (by kernel_rfl) (by kernel_rfl) (by kernel_rfl) (fun _ _ _ h => h) (by rfl) (by assumption) ?_
  simp only [List.setIfInBounds_toArray, List.set_cons_zero, List.set_cons_succ]
  refine heldSkip 26 59 rfl rfl (by kernel_rfl) (by kernel_rfl) (by kernel_rfl) (fun _ _ _ h => h) (by rfl) (by assumption) ?_
  simp only [List.setIfInBounds_toArray, List.set_cons_zero, List.set_cons_succ]
  refine heldTake (v := ?_) 27 60 rfl rfl (by kernel_rfl) (by kernel_rfl) (by kernel_rfl) (fun _ _ _ h => h) (by rfl) (fun w hSw => ?_) (by assumption) ?_
  rotate_left
  · (try dsimp only at hSw); first | (go_simp; done) | (go_simp; with_reducible rfl)
  simp only [List.setIfInBounds_toArray, List.set_cons_zero, List.set_cons_succ]
  refine wpAnyH_done (by kernel_rfl) ?_ _
  have HB9 : Hid (Below w.heap.size w _) := hHeld.2.2.2.2.2.2.2
  clear hHeld HS
  go_wp2
  go_ret
  exact ⟨by rw [HE.out]; rfl, HB9.out⟩

set_option maxRecDepth 100000 in
set_option maxHeartbeats 4000000 in
theorem pCheck_oth_true (x : PPr) (a : Option Addr) (n cap : Nat) (ts : List Int) (w : World) (hn : ts.length = n) (h4 : n ≤ 65536) (hr : RdI .i64 w a ts) (hk : kindB x.kind = true) (hh : hasB x n = true) (hv : askV x.kind = false) (ho : askO x.kind = true)(hne : atI ts x.other = atI ts x.col) :
    Calls Try.prog 11 #[.agg (cellsP x), .slice a n cap] w fun e w' => e = .returned (.int .i64 (chkP x ts)) ∧ Below w.heap.size w w' := by
  have HN : Hid (ts.length = n) := hn
  have HR : Hid (RdI .i64 w a ts) := hr
  clear hn hr
  have HE : Hid (chkP x ts = if atI ts x.other = atI ts x.col then 0 else 10) := chkP_oth hk (by rw [HN.out]; exact hh) hv ho
  obtain ⟨i, hi, hin⟩ := has_col hh
  have hil : i < ts.length := by rw [HN.out]; exact hin
  obtain ⟨b, off, rfl, hc⟩ := HR.out (by omega)
  have y0 := hc i hil
  rw [hi, atI_nat ts i hil] at hne
  have HE := HE.out
  rw [hi, atI_nat ts i hil] at HE
  have i0 : (0 : Int) ≤ (i : Int) := by omega
  have i1 : (i : Int) < (n : Int) := by omega
  obtain ⟨j, hj, hjn⟩ := has_oth hh ho
  have hjl : j < ts.length := by rw [HN.out]; exact hjn
  have z0 := hc j hjl
  rw [hj, atI_nat ts j hjl] at HE hne
  have j0 : (0 : Int) ≤ (j : Int) := by omega
  have j1 : (j : Int) < (n : Int) := by omega
  generalize ts[i] = ty at *
  generalize ts[j] = tz at *
  clear hc hil hjl HR
  rw [if_pos hne] at HE
  subst tz
  have HE : Hid (chkP x ts = 0) := HE
  obtain ⟨k, c, o, vk, vi, vs⟩ := x
  try simp only at hk hh hv ho hi hj
  simp only [cellsP]
  subst hi
  subst hj
  have CH := pHas_any ⟨k, (i : Int), (j : Int), vk, vi, vs⟩ n
  rw [hh] at CH
  simp only [cellsP] at CH
  have CV := pAskV_any k
  have CO := pAskO_any k
  rw [hv] at CV
  rw [ho] at CO
  have CK := pKind_any k
  rw [hk] at CK
  go_enter Try.func11, Try.ntmps11
  go_upto_region 1 with fail
  have HS : (w.alloc (.cells #[.int .i64 k, .int .i64 i, .int .i64 j, .int .i64 vk, .int .i64 vi, .string vs] 25)).cell? ⟨w.heap.size, 0, none⟩ = some (.int .i64 k) ∧ (w.alloc (.cells #[.int .i64 k, .int .i64 i, .int .i64 j, .int .i64 vk, .int .i64 vi, .string vs] 25)).cell? ⟨w.heap.size, 1, none⟩ = some (.int .i64 i) ∧ (w.alloc (.cells #[.int .i64 k, .int .i64 i, .int .i64 j, .int .i64 vk, .int .i64 vi, .string vs] 25)).cell? ⟨w.heap.size, 2, none⟩ = some (.int .i64 j) ∧ (w.alloc (.cells #[.int .i64 k, .int .i64 i, .int .i64 j, .int .i64 vk, .int .i64 vi, .string vs] 25)).cell? ⟨w.heap.size, 3, none⟩ = some (.int .i64 vk) ∧ (w.alloc (.cells #[.int .i64 k, .int .i64 i, .int .i64 j, .int .i64 vk, .int .i64 vi, .string vs] 25)).cell? ⟨w.heap.size, 4, none⟩ = some (.int .i64 vi) ∧ (w.alloc (.cells #[.int .i64 k, .int .i64 i, .int .i64 j, .int .i64 vk, .int .i64 vi, .string vs] 25)).cell? ⟨w.heap.size, 5, none⟩ = some (.string vs) ∧ Hid (Below w.heap.size w (w.alloc (.cells #[.int .i64 k, .int .i64 i, .int .i64 j, .int .i64 vk, .int .i64 vi, .string vs] 25))) := by
    obtain ⟨c0, c1, c2, c3, c4, c5⟩ := box6 (Below.refl (w.alloc (.cells #[.int .i64 k, .int .i64 i, .int .i64 j, .int .i64 vk, .int .i64 vi, .string vs] 25)).heap.size (w.alloc (.cells #[.int .i64 k, .int .i64 i, .int .i64 j, .int .i64 vk, .int .i64 vi, .string vs] 25)))
    exact ⟨c0, c1, c2, c3, c4, c5, alloc_below _ _⟩
  go_region_held3 (fun w' => w'.cell? ⟨w.heap.size, 0, none⟩ = some (.int .i64 k) ∧ w'.cell? ⟨w.heap.size, 1, none⟩ = some (.int .i64 i) ∧ w'.cell? ⟨w.heap.size, 2, none⟩ = some (.int .i64 j) ∧ w'.cell? ⟨w.heap.size, 3, none⟩ = some (.int .i64 vk) ∧ w'.cell? ⟨w.heap.size, 4, none⟩ = some (.int .i64 vi) ∧ w'.cell? ⟨w.heap.size, 5, none⟩ = some (.string vs) ∧ Hid (Below w.heap.size w w')) (first | exact keepP6 (by assumption) (by assumption) | exact keepP6 (Below.refl _ _).drew (by assumption)) (first | (go_at_call 21; refine (CV _).mono ?_; rintro e w' ⟨rfl, hb⟩) | (go_at_call 22; refine (CO _).mono ?_; rintro e w' ⟨rfl, hb⟩))
  have HS1 : w'.cell? ⟨w.heap.size, 0, none⟩ = some (.int .i64 k) ∧ w'.cell? ⟨w.heap.size, 1, none⟩ = some (.int .i64 i) ∧ w'.cell? ⟨w.heap.size, 2, none⟩ = some (.int .i64 j) ∧ w'.cell? ⟨w.heap.size, 3, none⟩ = some (.int .i64 vk) ∧ w'.cell? ⟨w.heap.size, 4, none⟩ = some (.int .i64 vi) ∧ w'.cell? ⟨w.heap.size, 5, none⟩ = some (.string vs) ∧ Hid (Below w.heap.size w w') := by assumption
  clear HS CV CO
  rename World => w2
  obtain ⟨c0, c1, c2, c3, c4, c5, HB⟩ := HS1
  go_wp2_with fail
  refine (CK _).mono ?_
  rintro e w3 ⟨rfl, hb⟩
  have HS : w3.cell? ⟨w.heap.size, 0, none⟩ = some (.int .i64 k) ∧ w3.cell? ⟨w.heap.size, 1, none⟩ = some (.int .i64 i) ∧ w3.cell? ⟨w.heap.size, 2, none⟩ = some (.int .i64 j) ∧ w3.cell? ⟨w.heap.size, 3, none⟩ = some (.int .i64 vk) ∧ w3.cell? ⟨w.heap.size, 4, none⟩ = some (.int .i64 vi) ∧ w3.cell? ⟨w.heap.size, 5, none⟩ = some (.string vs) ∧ Hid (Below w.heap.size w w3) := keepP6 hb ⟨c0, c1, c2, c3, c4, c5, HB⟩
  clear c0 c1 c2 c3 c4 c5 HB hb CK
  obtain ⟨c0, c1, c2, c3, c4, c5, HB⟩ := HS
  go_wp2_with fail
  refine (CH _).mono ?_
  rintro e w4 ⟨rfl, hb⟩
  have HS : w4.cell? ⟨w.heap.size, 0, none⟩ = some (.int .i64 k) ∧ w4.cell? ⟨w.heap.size, 1, none⟩ = some (.int .i64 i) ∧ w4.cell? ⟨w.heap.size, 2, none⟩ = some (.int .i64 j) ∧ w4.cell? ⟨w.heap.size, 3, none⟩ = some (.int .i64 vk) ∧ w4.cell? ⟨w.heap.size, 4, none⟩ = some (.int .i64 vi) ∧ w4.cell? ⟨w.heap.size, 5, none⟩ = some (.string vs) ∧ Hid (Below w.heap.size w w4) := keepP6 hb ⟨c0, c1, c2, c3, c4, c5, HB⟩
  clear c0 c1 c2 c3 c4 c5 HB hb CH
  obtain ⟨c0, c1, c2, c3, c4, c5, HB⟩ := HS
  go_upto_region 4 with fail
  have HS : w4.cell? ⟨w.heap.size, 0, none⟩ = some (.int .i64 k) ∧ w4.cell? ⟨w.heap.size, 1, none⟩ = some (.int .i64 i) ∧ w4.cell? ⟨w.heap.size, 2, none⟩ = some (.int .i64 j) ∧ w4.cell? ⟨w.heap.size, 3, none⟩ = some (.int .i64 vk) ∧ w4.cell? ⟨w.heap.size, 4, none⟩ = some (.int .i64 vi) ∧ w4.cell? ⟨w.heap.size, 5, none⟩ = some (.string vs) ∧ w4.cell? ⟨b, off + i, none⟩ = some (.int .i64 ty) ∧ w4.cell? ⟨b, off + j, none⟩ = some (.int .i64 ty) ∧ Hid (Below w.heap.size w w4) := ⟨c0, c1, c2, c3, c4, c5, cell_later HB.out y0, cell_later HB.out z0, HB⟩
  have HS : w4.drew.cell? ⟨w.heap.size, 0, none⟩ = some (.int .i64 k) ∧ w4.drew.cell? ⟨w.heap.size, 1, none⟩ = some (.int .i64 i) ∧ w4.drew.cell? ⟨w.heap.size, 2, none⟩ = some (.int .i64 j) ∧ w4.drew.cell? ⟨w.heap.size, 3, none⟩ = some (.int .i64 vk) ∧ w4.drew.cell? ⟨w.heap.size, 4, none⟩ = some (.int .i64 vi) ∧ w4.drew.cell? ⟨w.heap.size, 5, none⟩ = some (.string vs) ∧ w4.drew.cell? ⟨b, off + i, none⟩ = some (.int .i64 ty) ∧ w4.drew.cell? ⟨b, off + j, none⟩ = some (.int .i64 ty) ∧ Hid (Below w.heap.size w w4.drew) := keepP8 (Below.refl _ _).drew HS
  clear c0 c1 c2 c3 c4 c5 y0 z0 HB
  refine wp_region_held_drew (S := (fun w' => w'.cell? ⟨w.heap.size, 0, none⟩ = some (.int .i64 k) ∧ w'.cell? ⟨w.heap.size, 1, none⟩ = some (.int .i64 i) ∧ w'.cell? ⟨w.heap.size, 2, none⟩ = some (.int .i64 j) ∧ w'.cell? ⟨w.heap.size, 3, none⟩ = some (.int .i64 vk) ∧ w'.cell? ⟨w.heap.size, 4, none⟩ = some (.int .i64 vi) ∧ w'.cell? ⟨w.heap.size, 5, none⟩ = some (.string vs) ∧ w'.cell? ⟨b, off + i, none⟩ = some (.int .i64 ty) ∧ w'.cell? ⟨b, off + j, none⟩ = some (.int .i64 ty) ∧ Hid (Below w.heap.size w w'))) (by kernel_rfl) HS (fun hHeld => ?_)
  refine heldTake (v := ?_) 0 33 rfl rfl (by kernel_rfl) (by kernel_rfl) (by kernel_rfl) (fun _ _ _ h => h) (by rfl) (fun w hSw => ?_) (by assumption) ?_
  rotate_left
  · (try dsimp only at hSw); first | (go_simp; done) | (go_simp; with_reducible rfl)
  simp only [List.setIfInBounds_toArray, List.set_cons_zero, List.set_cons_succ]
  refine heldTake (v := ?_) 1 34 rfl rfl (by kernel_rfl) (by kernel_rfl) (by kernel_rfl) (fun _ _ _ h => h) (by rfl) (fun w hSw => ?_) (by assumption) ?_
  rotate_left
  · (try dsimp only at hSw); first | (go_simp; done) | (go_simp; with_reducible rfl)
  simp only [List.setIfInBounds_toArray, List.set_cons_zero, List.set_cons_succ]
  refine heldSkip 2 35 rfl rfl (by kernel_rfl) (by kernel_rfl) (by kernel_rfl) (fun _ _ _ h => h) (by rfl) (by assumption) ?_
  simp only [List.setIfInBounds_toArray, List.set_cons_zero, List.set_cons_succ]
  refine heldSkip 3 36 rfl rfl (by kernel_rfl) (by kernel_rfl) (by kernel_rfl) (fun _ _ _ h => h) (by rfl) (by assumption) ?_
  simp only [List.setIfInBounds_toArray, List.set_cons_zero, List.set_cons_succ]
  refine heldSkip 4 37 rfl rfl (by kernel_rfl) (by kernel_rfl) (by kernel_rfl) (fun _ _ _ h => h) (by rfl) (by assumption) ?_
  simp only [List.setIfInBounds_toArray, List.set_cons_zero, List.set_cons_succ]
  refine heldSkip 5 38 rfl rfl (by kernel_rfl) (by kernel_rfl) (by kernel_rfl) (fun _ _ _ h => h) (by rfl) (by assumption) ?_
  simp only [List.setIfInBounds_toArray, List.set_cons_zero, List.set_cons_succ]
  refine heldSkip 6 39 rfl rfl (by kernel_rfl) (by kernel_rfl) (by kernel_rfl) (fun _ _ _ h => h) (by rfl) (by assumption) ?_
  simp only [List.setIfInBounds_toArray, List.set_cons_zero, List.set_cons_succ]
  refine heldSkip 7 40 rfl rfl (by kernel_rfl) (by kernel_rfl) (by kernel_rfl) (fun _ _ _ h => h) (by rfl) (by assumption) ?_
  simp only [List.setIfInBounds_toArray, List.set_cons_zero, List.set_cons_succ]
  refine heldSkip 8 41 rfl rfl (by kernel_rfl) (by kernel_rfl) (by kernel_rfl) (fun _ _ _ h => h) (by rfl) (by assumption) ?_
  simp only [List.setIfInBounds_toArray, List.set_cons_zero, List.set_cons_succ]
  refine heldSkip 9 42 rfl rfl (by kernel_rfl) (by kernel_rfl) (by kernel_rfl) (fun _ _ _ h => h) (by rfl) (by assumption) ?_
  simp only [List.setIfInBounds_toArray, List.set_cons_zero, List.set_cons_succ]
  refine heldSkip 10 43 rfl rfl (by kernel_rfl) (by kernel_rfl) (by kernel_rfl) (fun _ _ _ h => h) (by rfl) (by assumption) ?_
  simp only [List.setIfInBounds_toArray, List.set_cons_zero, List.set_cons_succ]
  refine heldTake (v := ?_) 11 44 rfl rfl (by kernel_rfl) (by kernel_rfl) (by kernel_rfl) (fun _ _ _ h => h) (by rfl) (fun w hSw => ?_) (by assumption) ?_
  rotate_left
  · (try dsimp only at hSw); first | (go_simp; done) | (go_simp; with_reducible rfl)
  simp only [List.setIfInBounds_toArray, List.set_cons_zero, List.set_cons_succ]
  refine heldTake (v := ?_) 12 45 rfl rfl (by kernel_rfl) (by kernel_rfl) (by kernel_rfl) (fun _ _ _ h => h) (by rfl) (fun w hSw => ?_) (by assumption) ?_
  rotate_left
  · (try dsimp only at hSw); first | (go_simp; done) | (go_simp; with_reducible rfl)
  simp only [List.setIfInBounds_toArray, List.set_cons_zero, List.set_cons_succ]
  refine heldTake (v := ?_) 13 46 rfl rfl (by kernel_rfl) (by kernel_rfl) (by kernel_rfl) (fun _ _ _ h => h) (by rfl) (fun w hSw => ?_) (by assumption) ?_
  rotate_left
  · (try dsimp only at hSw); first | (go_simp; done) | (go_simp; with_reducible rfl)
  simp only [List.setIfInBounds_toArray, List.set_cons_zero, List.set_cons_succ]
  refine heldTake (v := ?_) 14 47 rfl rfl (by kernel_rfl) (by kernel_rfl) (by kernel_rfl) (fun _ _ _ h => h) (by rfl) (fun w hSw => ?_) (by assumption) ?_
  rotate_left
  · (try dsimp only at hSw); first | (go_simp; done) | (go_simp; with_reducible rfl)
  simp only [List.setIfInBounds_toArray, List.set_cons_zero, List.set_cons_succ]
  refine heldTake (v := ?_) 15 48 rfl rfl (by kernel_rfl) (by kernel_rfl) (by kernel_rfl) (fun _ _ _ h => h) (by rfl) (fun w hSw => ?_) (by assumption) ?_
  rotate_left
  · (try dsimp only at hSw); first | (go_simp; done) | (go_simp; with_reducible rfl)
  simp only [List.setIfInBounds_toArray, List.set_cons_zero, List.set_cons_succ]
  refine heldTake (v := ?_) 16 49 rfl rfl (by kernel_rfl) (by kernel_rfl) (by kernel_rfl) (fun _ _ _ h => h) (by rfl) (fun w hSw => ?_) (by assumption) ?_
  rotate_left
  · (try dsimp only at hSw); first | (go_simp; done) | (go_simp; with_reducible rfl)
  simp only [List.setIfInBounds_toArray, List.set_cons_zero, List.set_cons_succ]
  refine heldTake (v := ?_) 17 50 rfl rfl (by kernel_rfl) (by kernel_rfl) (by kernel_rfl) (fun _ _ _ h => h) (by rfl) (fun w hSw => ?_) (by assumption) ?_
  rotate_left
  · (try dsimp only at hSw); first | (go_simp; done) | (go_simp; with_reducible rfl)
  simp only [List.setIfInBounds_toArray, List.set_cons_zero, List.set_cons_succ]
  refine heldTake (v := ?_) 18 51 rfl rfl (by kernel_rfl) (by kernel_rfl) (by kernel_rfl) (fun _ _ _ h => h) (by rfl) (fun w hSw => ?_) (by assumption) ?_
  rotate_left
  · (try dsimp only at hSw); first | (go_simp; done) | (go_simp; with_reducible rfl)
  simp only [List.setIfInBounds_toArray, List.set_cons_zero, List.set_cons_succ]
  refine heldTake (v := ?_) 19 52 rfl rfl (by kernel_rfl) (by kernel_rfl) (by kernel_rfl) (fun _ _ _ h => h) (by rfl) (fun w hSw => ?_) (by assumption) ?_
  rotate_left
  · (try dsimp only at hSw); first | (go_simp; done) | (go_simp; with_reducible rfl)
  simp only [List.setIfInBounds_toArray, List.set_cons_zero, List.set_cons_succ]
  refine heldTake (v := ?_) 20 53 rfl rfl (by kernel_rfl) (by kernel_rfl) (by kernel_rfl) (fun _ _ _ h => h) (by rfl) (fun w hSw => ?_) (by assumption) ?_
  rotate_left
  · (try dsimp only at hSw); first | (go_simp; done) | (go_simp; with_reducible rfl)
  simp only [List.setIfInBounds_toArray, List.set_cons_zero, List.set_cons_succ]
  refine heldTake (v := ?_) 21 54 rfl rfl (by kernel_rfl) (by kernel_rfl) (by kernel_rfl) (fun _ _ _ h => h) (by rfl) (fun w hSw => ?_) (by assumption) ?_
  rotate_left
  · (try dsimp only at hSw); first | (go_simp; done) | (go_simp; with_reducible rfl)
  simp only [List.setIfInBounds_toArray, List.set_cons_zero, List.set_cons_succ]
  refine heldTake (v := ?_) 22 55 rfl rfl (by kernel_rfl) (by kernel_rfl) (by kernel_rfl) (fun _ _ _ h => h) (by rfl) (fun w hSw => ?_) (by assumption) ?_
  rotate_left
  · (try dsimp only at hSw); first | (go_simp; done) | (go_simp; with_reducible rfl)
  simp only [List.setIfInBounds_toArray, List.set_cons_zero, List.set_cons_succ]
  refine heldTake (v := ?_) 23 56 rfl rfl (by kernel_rfl) (by kernel_rfl) (by kernel_rfl) (fun _ _ _ h => h) (by rfl) (fun w hSw => ?_) (by assumption) ?_
  rotate_left
  · (try dsimp only at hSw); first | (go_simp; done) | (go_simp; with_reducible rfl)
  simp only [List.setIfInBounds_toArray, List.set_cons_zero, List.set_cons_succ]
  refine heldTake (v := ?_) 24 57 rfl rfl (by kernel_rfl) (by kernel_rfl) (by kernel_rfl) (fun _ _ _ h => h) (by rfl) (fun w hSw => ?_) (by assumption) ?_
  rotate_left
  · (try dsimp only at hSw); first | (go_simp; done) | (go_simp; with_reducible rfl)
  simp only [List.setIfInBounds_toArray, List.set_cons_zero, List.set_cons_succ]
  refine heldTake (v := ?_) 25 58 rfl rfl (by kernel_rfl) (by kernel_rfl) (by kernel_rfl) (fun _ _ _ h => h) (by rfl) (fun w hSw => ?_) (by assumption) ?_
  rotate_left
  · (try dsimp only at hSw); first | (go_simp; done) | (go_simp; with_reducible rfl)
  simp only [List.setIfInBounds_toArray, List.set_cons_zero, List.set_cons_succ]
  refine heldTake (v := ?_) 26 59 rfl rfl (by kernel_rfl) (by kernel_rfl) (by kernel_rfl) (fun _ _ _ h => h) (by rfl) (fun w hSw => ?_) (by assumption) ?_
  rotate_left
  · (try dsimp only at hSw); first | (go_simp; done) | (go_simp; with_reducible rfl)
  simp only [List.setIfInBounds_toArray, List.set_cons_zero, List.set_cons_succ]
  refine heldTake (v := ?_) 27 60 rfl rfl (by kernel_rfl) (by kernel_rfl) (by kernel_rfl) (fun _ _ _ h => h) (by rfl) (fun w hSw => ?_) (by assumption) ?_
  rotate_left
  · (try dsimp only at hSw); first | (go_simp; done) | (go_simp; with_reducible rfl)
  simp only [List.setIfInBounds_toArray, List.set_cons_zero, List.set_cons_succ]
  refine wpAnyH_done (by kernel_rfl) ?_ _
  have HB9 : Hid (Below w.heap.size w _) := hHeld.2.2.2.2.2.2.2.2
  clear hHeld HS
  go_wp2
  go_ret
  exact ⟨by rw [HE.out]; rfl, HB9.out⟩

set_option maxRecDepth 100000 in
set_option maxHeartbeats 4000000 in
theorem pCheck_oth_false (x : PPr) (a : Option Addr) (n cap : Nat) (ts : List Int) (w : World) (hn : ts.length = n) (h4 : n ≤ 65536) (hr : RdI .i64 w a ts) (hk : kindB x.kind = true) (hh : hasB x n = true) (hv : askV x.kind = false) (ho : askO x.kind = true)(hne : atI ts x.other ≠ atI ts x.col) :
    Calls Try.prog 11 #[.agg (cellsP x), .slice a n cap] w fun e w' => e = .returned (.int .i64 (chkP x ts)) ∧ Below w.heap.size w w' := by
  have HN : Hid (ts.length = n) := hn
  have HR : Hid (RdI .i64 w a ts) := hr
  clear hn hr
  have HE : Hid (chkP x ts = if atI ts x.other = atI ts x.col then 0 else 10) := chkP_oth hk (by rw [HN.out]; exact hh) hv ho
  obtain ⟨i, hi, hin⟩ := has_col hh
  have hil : i < ts.length := by rw [HN.out]; exact hin
  obtain ⟨b, off, rfl, hc⟩ := HR.out (by omega)
  have y0 := hc i hil
  rw [hi, atI_nat ts i hil] at hne
  have HE := HE.out
  rw [hi, atI_nat ts i hil] at HE
  have i0 : (0 : Int) ≤ (i : Int) := by omega
  have i1 : (i : Int) < (n : Int) := by omega
  obtain ⟨j, hj, hjn⟩ := has_oth hh ho
  have hjl : j < ts.length := by rw [HN.out]; exact hjn
  have z0 := hc j hjl
  rw [hj, atI_nat ts j hjl] at HE hne
  have j0 : (0 : Int) ≤ (j : Int) := by omega
  have j1 : (j : Int) < (n : Int) := by omega
  generalize ts[i] = ty at *
  generalize ts[j] = tz at *
  clear hc hil hjl HR
  rw [if_neg hne] at HE
  have HE : Hid (chkP x ts = 10) := HE
  obtain ⟨k, c, o, vk, vi, vs⟩ := x
  try simp only at hk hh hv ho hi hj
  simp only [cellsP]
  subst hi
  subst hj
  have CH := pHas_any ⟨k, (i : Int), (j : Int), vk, vi, vs⟩ n
  rw [hh] at CH
  simp only [cellsP] at CH
  have CV := pAskV_any k
  have CO := pAskO_any k
  rw [hv] at CV
  rw [ho] at CO
  have CK := pKind_any k
  rw [hk] at CK
  go_enter Try.func11, Try.ntmps11
  go_upto_region 1 with fail
  have HS : (w.alloc (.cells #[.int .i64 k, .int .i64 i, .int .i64 j, .int .i64 vk, .int .i64 vi, .string vs] 25)).cell? ⟨w.heap.size, 0, none⟩ = some (.int .i64 k) ∧ (w.alloc (.cells #[.int .i64 k, .int .i64 i, .int .i64 j, .int .i64 vk, .int .i64 vi, .string vs] 25)).cell? ⟨w.heap.size, 1, none⟩ = some (.int .i64 i) ∧ (w.alloc (.cells #[.int .i64 k, .int .i64 i, .int .i64 j, .int .i64 vk, .int .i64 vi, .string vs] 25)).cell? ⟨w.heap.size, 2, none⟩ = some (.int .i64 j) ∧ (w.alloc (.cells #[.int .i64 k, .int .i64 i, .int .i64 j, .int .i64 vk, .int .i64 vi, .string vs] 25)).cell? ⟨w.heap.size, 3, none⟩ = some (.int .i64 vk) ∧ (w.alloc (.cells #[.int .i64 k, .int .i64 i, .int .i64 j, .int .i64 vk, .int .i64 vi, .string vs] 25)).cell? ⟨w.heap.size, 4, none⟩ = some (.int .i64 vi) ∧ (w.alloc (.cells #[.int .i64 k, .int .i64 i, .int .i64 j, .int .i64 vk, .int .i64 vi, .string vs] 25)).cell? ⟨w.heap.size, 5, none⟩ = some (.string vs) ∧ Hid (Below w.heap.size w (w.alloc (.cells #[.int .i64 k, .int .i64 i, .int .i64 j, .int .i64 vk, .int .i64 vi, .string vs] 25))) := by
    obtain ⟨c0, c1, c2, c3, c4, c5⟩ := box6 (Below.refl (w.alloc (.cells #[.int .i64 k, .int .i64 i, .int .i64 j, .int .i64 vk, .int .i64 vi, .string vs] 25)).heap.size (w.alloc (.cells #[.int .i64 k, .int .i64 i, .int .i64 j, .int .i64 vk, .int .i64 vi, .string vs] 25)))
    exact ⟨c0, c1, c2, c3, c4, c5, alloc_below _ _⟩
  go_region_held3 (fun w' => w'.cell? ⟨w.heap.size, 0, none⟩ = some (.int .i64 k) ∧ w'.cell? ⟨w.heap.size, 1, none⟩ = some (.int .i64 i) ∧ w'.cell? ⟨w.heap.size, 2, none⟩ = some (.int .i64 j) ∧ w'.cell? ⟨w.heap.size, 3, none⟩ = some (.int .i64 vk) ∧ w'.cell? ⟨w.heap.size, 4, none⟩ = some (.int .i64 vi) ∧ w'.cell? ⟨w.heap.size, 5, none⟩ = some (.string vs) ∧ Hid (Below w.heap.size w w')) (first | exact keepP6 (by assumption) (by assumption) | exact keepP6 (Below.refl _ _).drew (by assumption)) (first | (go_at_call 21; refine (CV _).mono ?_; rintro e w' ⟨rfl, hb⟩) | (go_at_call 22; refine (CO _).mono ?_; rintro e w' ⟨rfl, hb⟩))
  have HS1 : w'.cell? ⟨w.heap.size, 0, none⟩ = some (.int .i64 k) ∧ w'.cell? ⟨w.heap.size, 1, none⟩ = some (.int .i64 i) ∧ w'.cell? ⟨w.heap.size, 2, none⟩ = some (.int .i64 j) ∧ w'.cell? ⟨w.heap.size, 3, none⟩ = some (.int .i64 vk) ∧ w'.cell? ⟨w.heap.size, 4, none⟩ = some (.int .i64 vi) ∧ w'.cell? ⟨w.heap.size, 5, none⟩ = some (.string vs) ∧ Hid (Below w.heap.size w w') := by assumption
  clear HS CV CO
  rename World => w2
  obtain ⟨c0, c1, c2, c3, c4, c5, HB⟩ := HS1
  go_wp2_with fail
  refine (CK _).mono ?_
  rintro e w3 ⟨rfl, hb⟩
  have HS : w3.cell? ⟨w.heap.size, 0, none⟩ = some (.int .i64 k) ∧ w3.cell? ⟨w.heap.size, 1, none⟩ = some (.int .i64 i) ∧ w3.cell? ⟨w.heap.size, 2, none⟩ = some (.int .i64 j) ∧ w3.cell? ⟨w.heap.size, 3, none⟩ = some (.int .i64 vk) ∧ w3.cell? ⟨w.heap.size, 4, none⟩ = some (.int .i64 vi) ∧ w3.cell? ⟨w.heap.size, 5, none⟩ = some (.string vs) ∧ Hid (Below w.heap.size w w3) := keepP6 hb ⟨c0, c1, c2, c3, c4, c5, HB⟩
  clear c0 c1 c2 c3 c4 c5 HB hb CK
  obtain ⟨c0, c1, c2, c3, c4, c5, HB⟩ := HS
  go_wp2_with fail
  refine (CH _).mono ?_
  rintro e w4 ⟨rfl, hb⟩
  have HS : w4.cell? ⟨w.heap.size, 0, none⟩ = some (.int .i64 k) ∧ w4.cell? ⟨w.heap.size, 1, none⟩ = some (.int .i64 i) ∧ w4.cell? ⟨w.heap.size, 2, none⟩ = some (.int .i64 j) ∧ w4.cell? ⟨w.heap.size, 3, none⟩ = some (.int .i64 vk) ∧ w4.cell? ⟨w.heap.size, 4, none⟩ = some (.int .i64 vi) ∧ w4.cell? ⟨w.heap.size, 5, none⟩ = some (.string vs) ∧ Hid (Below w.heap.size w w4) := keepP6 hb ⟨c0, c1, c2, c3, c4, c5, HB⟩
  clear c0 c1 c2 c3 c4 c5 HB hb CH
  obtain ⟨c0, c1, c2, c3, c4, c5, HB⟩ := HS
  go_upto_region 4 with fail
  have HS : w4.cell? ⟨w.heap.size, 0, none⟩ = some (.int .i64 k) ∧ w4.cell? ⟨w.heap.size, 1, none⟩ = some (.int .i64 i) ∧ w4.cell? ⟨w.heap.size, 2, none⟩ = some (.int .i64 j) ∧ w4.cell? ⟨w.heap.size, 3, none⟩ = some (.int .i64 vk) ∧ w4.cell? ⟨w.heap.size, 4, none⟩ = some (.int .i64 vi) ∧ w4.cell? ⟨w.heap.size, 5, none⟩ = some (.string vs) ∧ w4.cell? ⟨b, off + i, none⟩ = some (.int .i64 ty) ∧ w4.cell? ⟨b, off + j, none⟩ = some (.int .i64 tz) ∧ Hid (Below w.heap.size w w4) := ⟨c0, c1, c2, c3, c4, c5, cell_later HB.out y0, cell_later HB.out z0, HB⟩
  have HS : w4.drew.cell? ⟨w.heap.size, 0, none⟩ = some (.int .i64 k) ∧ w4.drew.cell? ⟨w.heap.size, 1, none⟩ = some (.int .i64 i) ∧ w4.drew.cell? ⟨w.heap.size, 2, none⟩ = some (.int .i64 j) ∧ w4.drew.cell? ⟨w.heap.size, 3, none⟩ = some (.int .i64 vk) ∧ w4.drew.cell? ⟨w.heap.size, 4, none⟩ = some (.int .i64 vi) ∧ w4.drew.cell? ⟨w.heap.size, 5, none⟩ = some (.string vs) ∧ w4.drew.cell? ⟨b, off + i, none⟩ = some (.int .i64 ty) ∧ w4.drew.cell? ⟨b, off + j, none⟩ = some (.int .i64 tz) ∧ Hid (Below w.heap.size w w4.drew) := keepP8 (Below.refl _ _).drew HS
  clear c0 c1 c2 c3 c4 c5 y0 z0 HB
  have ne1 : (tz != ty) = true := by simpa using hne
  have ne2 : (tz = ty) = False := eq_false hne
  clear hne
  refine wp_region_held_drew (S := (fun w' => w'.cell? ⟨w.heap.size, 0, none⟩ = some (.int .i64 k) ∧ w'.cell? ⟨w.heap.size, 1, none⟩ = some (.int .i64 i) ∧ w'.cell? ⟨w.heap.size, 2, none⟩ = some (.int .i64 j) ∧ w'.cell? ⟨w.heap.size, 3, none⟩ = some (.int .i64 vk) ∧ w'.cell? ⟨w.heap.size, 4, none⟩ = some (.int .i64 vi) ∧ w'.cell? ⟨w.heap.size, 5, none⟩ = some (.string vs) ∧ w'.cell? ⟨b, off + i, none⟩ = some (.int .i64 ty) ∧ w'.cell? ⟨b, off + j, none⟩ = some (.int .i64 tz) ∧ Hid (Below w.heap.size w w'))) (by kernel_rfl) HS (fun hHeld => ?_)
  refine heldTake (v := ?_) 0 33 rfl rfl (by kernel_rfl) (by kernel_rfl) (by kernel_rfl) (fun _ _ _ h => h) (by rfl) (fun w hSw => ?_) (by assumption) ?_
  rotate_left
  · (try dsimp only at hSw); first | (go_simp; done) | (go_simp; with_reducible rfl)
  simp only [List.setIfInBounds_toArray, List.set_cons_zero, List.set_cons_succ]
  refine heldTake (v := ?_) 1 34 rfl rfl (by kernel_rfl) (by kernel_rfl) (by kernel_rfl) (fun _ _ _ h => h) (by rfl) (fun w hSw => ?_) (by assumption) ?_
  rotate_left
  · (try dsimp only at hSw); first | (go_simp; done) | (go_simp; with_reducible rfl)
  simp only [List.setIfInBounds_toArray, List.set_cons_zero, List.set_cons_succ]
  refine heldSkip 2 35 rfl rfl (by kernel_rfl) (by kernel_rfl) (by kernel_rfl) (fun _ _ _ h => h) (by rfl) (by assumption) ?_
  simp only [List.setIfInBounds_toArray, List.set_cons_zero, List.set_cons_succ]
  refine heldSkip 3 36 rfl rfl (by kernel_rfl) (by kernel_rfl) (by kernel_rfl) (fun _ _ _ h => h) (by rfl) (by assumption) ?_
  simp only [List.setIfInBounds_toArray, List.set_cons_zero, List.set_cons_succ]
  refine heldSkip 4 37 rfl rfl (by kernel_rfl) (by kernel_rfl) (by kernel_rfl) (fun _ _ _ h => h) (by rfl) (by assumption) ?_
  simp only [List.setIfInBounds_toArray, List.set_cons_zero, List.set_cons_succ]
  refine heldSkip 5 38 rfl rfl (by kernel_rfl) (by kernel_rfl) (by kernel_rfl) (fun _ _ _ h => h) (by rfl) (by assumption) ?_
  simp only [List.setIfInBounds_toArray, List.set_cons_zero, List.set_cons_succ]
  refine heldSkip 6 39 rfl rfl (by kernel_rfl) (by kernel_rfl) (by kernel_rfl) (fun _ _ _ h => h) (by rfl) (by assumption) ?_
  simp only [List.setIfInBounds_toArray, List.set_cons_zero, List.set_cons_succ]
  refine heldSkip 7 40 rfl rfl (by kernel_rfl) (by kernel_rfl) (by kernel_rfl) (fun _ _ _ h => h) (by rfl) (by assumption) ?_
  simp only [List.setIfInBounds_toArray, List.set_cons_zero, List.set_cons_succ]
  refine heldSkip 8 41 rfl rfl (by kernel_rfl) (by kernel_rfl) (by kernel_rfl) (fun _ _ _ h => h) (by rfl) (by assumption) ?_
  simp only [List.setIfInBounds_toArray, List.set_cons_zero, List.set_cons_succ]
  refine heldSkip 9 42 rfl rfl (by kernel_rfl) (by kernel_rfl) (by kernel_rfl) (fun _ _ _ h => h) (by rfl) (by assumption) ?_
  simp only [List.setIfInBounds_toArray, List.set_cons_zero, List.set_cons_succ]
  refine heldSkip 10 43 rfl rfl (by kernel_rfl) (by kernel_rfl) (by kernel_rfl) (fun _ _ _ h => h) (by rfl) (by assumption) ?_
  simp only [List.setIfInBounds_toArray, List.set_cons_zero, List.set_cons_succ]
  refine heldTake (v := ?_) 11 44 rfl rfl (by kernel_rfl) (by kernel_rfl) (by kernel_rfl) (fun _ _ _ h => h) (by rfl) (fun w hSw => ?_) (by assumption) ?_
  rotate_left
  · (try dsimp only at hSw); first | (go_simp; done) | (go_simp; with_reducible rfl)
  simp only [List.setIfInBounds_toArray, List.set_cons_zero, List.set_cons_succ]
  refine heldTake (v := ?_) 12 45 rfl rfl (by kernel_rfl) (by kernel_rfl) (by kernel_rfl) (fun _ _ _ h => h) (by rfl) (fun w hSw => ?_) (by assumption) ?_
  rotate_left
  · (try dsimp only at hSw); first | (go_simp; done) | (go_simp; with_reducible rfl)
  simp only [List.setIfInBounds_toArray, List.set_cons_zero, List.set_cons_succ]
  refine heldTake (v := ?_) 13 46 rfl rfl (by kernel_rfl) (by kernel_rfl) (by kernel_rfl) (fun _ _ _ h => h) (by rfl) (fun w hSw => ?_) (by assumption) ?_
  rotate_left
  · (try dsimp only at hSw); first | (go_simp; done) | (go_simp; with_reducible rfl)
  simp only [List.setIfInBounds_toArray, List.set_cons_zero, List.set_cons_succ]
  refine heldTake (v := ?_) 14 47 rfl rfl (by kernel_rfl) (by kernel_rfl) (by kernel_rfl) (fun _ _ _ h => h) (by rfl) (fun w hSw => ?_) (by assumption) ?_
  rotate_left
  · (try dsimp only at hSw); first | (go_simp; done) | (go_simp; with_reducible rfl)
  simp only [List.setIfInBounds_toArray, List.set_cons_zero, List.set_cons_succ]
  refine heldTake (v := ?_) 15 48 rfl rfl (by kernel_rfl) (by kernel_rfl) (by kernel_rfl) (fun _ _ _ h => h) (by rfl) (fun w hSw => ?_) (by assumption) ?_
  rotate_left
  · (try dsimp only at hSw); first | (go_simp; done) | (go_simp; with_reducible rfl)
  simp only [List.setIfInBounds_toArray, List.set_cons_zero, List.set_cons_succ]
  refine heldTake (v := ?_) 16 49 rfl rfl (by kernel_rfl) (by kernel_rfl) (by kernel_rfl) (fun _ _ _ h => h) (by rfl) (fun w hSw => ?_) (by assumption) ?_
  rotate_left
  · (try dsimp only at hSw); first | (go_simp; done) | (go_simp; with_reducible rfl)
  simp only [List.setIfInBounds_toArray, List.set_cons_zero, List.set_cons_succ]
  refine heldTake (v := ?_) 17 50 rfl rfl (by kernel_rfl) (by kernel_rfl) (by kernel_rfl) (fun _ _ _ h => h) (by rfl) (fun w hSw => ?_) (by assumption) ?_
  rotate_left
  · (try dsimp only at hSw); first | (go_simp; done) | (go_simp; with_reducible rfl)
  simp only [List.setIfInBounds_toArray, List.set_cons_zero, List.set_cons_succ]
  refine heldTake (v := ?_) 18 51 rfl rfl (by kernel_rfl) (by kernel_rfl) (by kernel_rfl) (fun _ _ _ h => h) (by rfl) (fun w hSw => ?_) (by assumption) ?_
  rotate_left
  · (try dsimp only at hSw); first | (go_simp; done) | (go_simp; with_reducible rfl)
  simp only [List.setIfInBounds_toArray, List.set_cons_zero, List.set_cons_succ]
  refine heldTake (v := ?_) 19 52 rfl rfl (by kernel_rfl) (by kernel_rfl) (by kernel_rfl) (fun _ _ _ h => h) (by rfl) (fun w hSw => ?_) (by assumption) ?_
  rotate_left
  · (try dsimp only at hSw); first | (go_simp; done) | (go_simp; with_reducible rfl)
  simp only [List.setIfInBounds_toArray, List.set_cons_zero, List.set_cons_succ]
  refine heldTake (v := ?_) 20 53 rfl rfl (by kernel_rfl) (by kernel_rfl) (by kernel_rfl) (fun _ _ _ h => h) (by rfl) (fun w hSw => ?_) (by assumption) ?_
  rotate_left
  · (try dsimp only at hSw); first | (go_simp; done) | (go_simp; with_reducible rfl)
  simp only [List.setIfInBounds_toArray, List.set_cons_zero, List.set_cons_succ]
  refine heldTake (v := ?_) 21 54 rfl rfl (by kernel_rfl) (by kernel_rfl) (by kernel_rfl) (fun _ _ _ h => h) (by rfl) (fun w hSw => ?_) (by assumption) ?_
  rotate_left
  · (try dsimp only at hSw); first | (go_simp; done) | (go_simp; with_reducible rfl)
  simp only [List.setIfInBounds_toArray, List.set_cons_zero, List.set_cons_succ]
  refine heldTake (v := ?_) 22 55 rfl rfl (by kernel_rfl) (by kernel_rfl) (by kernel_rfl) (fun _ _ _ h => h) (by rfl) (fun w hSw => ?_) (by assumption) ?_
  rotate_left
  · (try dsimp only at hSw); first | (go_simp; done) | (go_simp; with_reducible rfl)
  simp only [List.setIfInBounds_toArray, List.set_cons_zero, List.set_cons_succ]
  refine heldTake (v := ?_) 23 56 rfl rfl (by kernel_rfl) (by kernel_rfl) (by kernel_rfl) (fun _ _ _ h => h) (by rfl) (fun w hSw => ?_) (by assumption) ?_
  rotate_left
  · (try dsimp only at hSw); first | (go_simp; done) | (go_simp; with_reducible rfl)
  simp only [List.setIfInBounds_toArray, List.set_cons_zero, List.set_cons_succ]
  refine heldTake (v := ?_) 24 57 rfl rfl (by kernel_rfl) (by kernel_rfl) (by kernel_rfl) (fun _ _ _ h => h) (by rfl) (fun w hSw => ?_) (by assumption) ?_
  rotate_left
  · (try dsimp only at hSw); first | (go_simp; done) | (go_simp; with_reducible rfl)
  simp only [List.setIfInBounds_toArray, List.set_cons_zero, List.set_cons_succ]
  refine heldTake (v := ?_) 25 58 rfl rfl (by kernel_rfl) (by kernel_rfl) (by kernel_rfl) (fun _ _ _ h => h) (by rfl) (fun w hSw => ?_) (by assumption) ?_
  rotate_left
  · (try dsimp only at hSw); first | (go_simp; done) | (go_simp; with_reducible rfl)
  simp only [List.setIfInBounds_toArray, List.set_cons_zero, List.set_cons_succ]
  refine heldTake (v := ?_) 26 59 rfl rfl (by kernel_rfl) (by kernel_rfl) (by kernel_rfl) (fun _ _ _ h => h) (by rfl) (fun w hSw => ?_) (by assumption) ?_
  rotate_left
  · (try dsimp only at hSw); first | (go_simp; done) | (go_simp; with_reducible rfl)
  simp only [List.setIfInBounds_toArray, List.set_cons_zero, List.set_cons_succ]
  refine heldTake (v := ?_) 27 60 rfl rfl (by kernel_rfl) (by kernel_rfl) (by kernel_rfl) (fun _ _ _ h => h) (by rfl) (fun w hSw => ?_) (by assumption) ?_
  rotate_left
  · (try dsimp only at hSw); first | (go_simp; done) | (go_simp; with_reducible rfl)
  simp only [List.setIfInBounds_toArray, List.set_cons_zero, List.set_cons_succ]
  refine wpAnyH_done (by kernel_rfl) ?_ _
  have HB9 : Hid (Below w.heap.size w _) := hHeld.2.2.2.2.2.2.2.2
  clear hHeld HS
  go_wp2
  go_ret
  exact ⟨by rw [HE.out]; rfl, HB9.out⟩

set_option maxRecDepth 100000 in
set_option maxHeartbeats 4000000 in
theorem pCheck_one (x : PPr) (a : Option Addr) (n cap : Nat) (ts : List Int) (w : World) (hn : ts.length = n) (h4 : n ≤ 65536) (hr : RdI .i64 w a ts) (hk : kindB x.kind = true) (hh : hasB x n = true) (hv : askV x.kind = false) (ho : askO x.kind = false) :
    Calls Try.prog 11 #[.agg (cellsP x), .slice a n cap] w fun e w' => e = .returned (.int .i64 (chkP x ts)) ∧ Below w.heap.size w w' := by
  have HN : Hid (ts.length = n) := hn
  have HR : Hid (RdI .i64 w a ts) := hr
  clear hn hr
  have HE : Hid (chkP x ts = 0) := chkP_one hk (by rw [HN.out]; exact hh) hv ho
  obtain ⟨k, c, o, vk, vi, vs⟩ := x
  try simp only at hk hh hv ho
  simp only [cellsP]
  have CH := pHas_any ⟨k, c, o, vk, vi, vs⟩ n
  rw [hh] at CH
  simp only [cellsP] at CH
  have CV := pAskV_any k
  have CO := pAskO_any k
  rw [hv] at CV
  rw [ho] at CO
  have CK := pKind_any k
  rw [hk] at CK
  go_enter Try.func11, Try.ntmps11
  go_upto_region 1 with fail
  have HS : (w.alloc (.cells #[.int .i64 k, .int .i64 c, .int .i64 o, .int .i64 vk, .int .i64 vi, .string vs] 25)).cell? ⟨w.heap.size, 0, none⟩ = some (.int .i64 k) ∧ (w.alloc (.cells #[.int .i64 k, .int .i64 c, .int .i64 o, .int .i64 vk, .int .i64 vi, .string vs] 25)).cell? ⟨w.heap.size, 1, none⟩ = some (.int .i64 c) ∧ (w.alloc (.cells #[.int .i64 k, .int .i64 c, .int .i64 o, .int .i64 vk, .int .i64 vi, .string vs] 25)).cell? ⟨w.heap.size, 2, none⟩ = some (.int .i64 o) ∧ (w.alloc (.cells #[.int .i64 k, .int .i64 c, .int .i64 o, .int .i64 vk, .int .i64 vi, .string vs] 25)).cell? ⟨w.heap.size, 3, none⟩ = some (.int .i64 vk) ∧ (w.alloc (.cells #[.int .i64 k, .int .i64 c, .int .i64 o, .int .i64 vk, .int .i64 vi, .string vs] 25)).cell? ⟨w.heap.size, 4, none⟩ = some (.int .i64 vi) ∧ (w.alloc (.cells #[.int .i64 k, .int .i64 c, .int .i64 o, .int .i64 vk, .int .i64 vi, .string vs] 25)).cell? ⟨w.heap.size, 5, none⟩ = some (.string vs) ∧ Hid (Below w.heap.size w (w.alloc (.cells #[.int .i64 k, .int .i64 c, .int .i64 o, .int .i64 vk, .int .i64 vi, .string vs] 25))) := by
    obtain ⟨c0, c1, c2, c3, c4, c5⟩ := box6 (Below.refl (w.alloc (.cells #[.int .i64 k, .int .i64 c, .int .i64 o, .int .i64 vk, .int .i64 vi, .string vs] 25)).heap.size (w.alloc (.cells #[.int .i64 k, .int .i64 c, .int .i64 o, .int .i64 vk, .int .i64 vi, .string vs] 25)))
    exact ⟨c0, c1, c2, c3, c4, c5, alloc_below _ _⟩
  go_region_held3 (fun w' => w'.cell? ⟨w.heap.size, 0, none⟩ = some (.int .i64 k) ∧ w'.cell? ⟨w.heap.size, 1, none⟩ = some (.int .i64 c) ∧ w'.cell? ⟨w.heap.size, 2, none⟩ = some (.int .i64 o) ∧ w'.cell? ⟨w.heap.size, 3, none⟩ = some (.int .i64 vk) ∧ w'.cell? ⟨w.heap.size, 4, none⟩ = some (.int .i64 vi) ∧ w'.cell? ⟨w.heap.size, 5, none⟩ = some (.string vs) ∧ Hid (Below w.heap.size w w')) (first | exact keepP6 (by assumption) (by assumption) | exact keepP6 (Below.refl _ _).drew (by assumption)) (first | (go_at_call 21; refine (CV _).mono ?_; rintro e w' ⟨rfl, hb⟩) | (go_at_call 22; refine (CO _).mono ?_; rintro e w' ⟨rfl, hb⟩))
  have HS1 : w'.cell? ⟨w.heap.size, 0, none⟩ = some (.int .i64 k) ∧ w'.cell? ⟨w.heap.size, 1, none⟩ = some (.int .i64 c) ∧ w'.cell? ⟨w.heap.size, 2, none⟩ = some (.int .i64 o) ∧ w'.cell? ⟨w.heap.size, 3, none⟩ = some (.int .i64 vk) ∧ w'.cell? ⟨w.heap.size, 4, none⟩ = some (.int .i64 vi) ∧ w'.cell? ⟨w.heap.size, 5, none⟩ = some (.string vs) ∧ Hid (Below w.heap.size w w') := by assumption
  clear HS CV CO
  rename World => w2
  obtain ⟨c0, c1, c2, c3, c4, c5, HB⟩ := HS1
  go_wp2_with fail
  refine (CK _).mono ?_
  rintro e w3 ⟨rfl, hb⟩
  have HS : w3.cell? ⟨w.heap.size, 0, none⟩ = some (.int .i64 k) ∧ w3.cell? ⟨w.heap.size, 1, none⟩ = some (.int .i64 c) ∧ w3.cell? ⟨w.heap.size, 2, none⟩ = some (.int .i64 o) ∧ w3.cell? ⟨w.heap.size, 3, none⟩ = some (.int .i64 vk) ∧ w3.cell? ⟨w.heap.size, 4, none⟩ = some (.int .i64 vi) ∧ w3.cell? ⟨w.heap.size, 5, none⟩ = some (.string vs) ∧ Hid (Below w.heap.size w w3) := keepP6 hb ⟨c0, c1, c2, c3, c4, c5, HB⟩
  clear c0 c1 c2 c3 c4 c5 HB hb CK
  obtain ⟨c0, c1, c2, c3, c4, c5, HB⟩ := HS
  go_wp2_with fail
  refine (CH _).mono ?_
  rintro e w4 ⟨rfl, hb⟩
  have HS : w4.cell? ⟨w.heap.size, 0, none⟩ = some (.int .i64 k) ∧ w4.cell? ⟨w.heap.size, 1, none⟩ = some (.int .i64 c) ∧ w4.cell? ⟨w.heap.size, 2, none⟩ = some (.int .i64 o) ∧ w4.cell? ⟨w.heap.size, 3, none⟩ = some (.int .i64 vk) ∧ w4.cell? ⟨w.heap.size, 4, none⟩ = some (.int .i64 vi) ∧ w4.cell? ⟨w.heap.size, 5, none⟩ = some (.string vs) ∧ Hid (Below w.heap.size w w4) := keepP6 hb ⟨c0, c1, c2, c3, c4, c5, HB⟩
  clear c0 c1 c2 c3 c4 c5 HB hb CH
  obtain ⟨c0, c1, c2, c3, c4, c5, HB⟩ := HS
  go_upto_region 4 with fail
  have HS : w4.drew.cell? ⟨w.heap.size, 0, none⟩ = some (.int .i64 k) ∧ w4.drew.cell? ⟨w.heap.size, 1, none⟩ = some (.int .i64 c) ∧ w4.drew.cell? ⟨w.heap.size, 2, none⟩ = some (.int .i64 o) ∧ w4.drew.cell? ⟨w.heap.size, 3, none⟩ = some (.int .i64 vk) ∧ w4.drew.cell? ⟨w.heap.size, 4, none⟩ = some (.int .i64 vi) ∧ w4.drew.cell? ⟨w.heap.size, 5, none⟩ = some (.string vs) ∧ Hid (Below w.heap.size w w4.drew) := keepP6 (Below.refl _ _).drew ⟨c0, c1, c2, c3, c4, c5, HB⟩
  clear c0 c1 c2 c3 c4 c5 HB
  refine wp_region_held_drew (S := (fun w' => w'.cell? ⟨w.heap.size, 0, none⟩ = some (.int .i64 k) ∧ w'.cell? ⟨w.heap.size, 1, none⟩ = some (.int .i64 c) ∧ w'.cell? ⟨w.heap.size, 2, none⟩ = some (.int .i64 o) ∧ w'.cell? ⟨w.heap.size, 3, none⟩ = some (.int .i64 vk) ∧ w'.cell? ⟨w.heap.size, 4, none⟩ = some (.int .i64 vi) ∧ w'.cell? ⟨w.heap.size, 5, none⟩ = some (.string vs) ∧ Hid (Below w.heap.size w w'))) (by kernel_rfl) HS (fun hHeld => ?_)
  refine heldTake (v := ?_) 0 33 rfl rfl (by kernel_rfl) (by kernel_rfl) (by kernel_rfl) (fun _ _ _ h => h) (by rfl) (fun w hSw => ?_) (by assumption) ?_
  rotate_left
  · (try dsimp only at hSw); first | (go_simp; done) | (go_simp; with_reducible rfl)
  simp only [List.setIfInBounds_toArray, List.set_cons_zero, List.set_cons_succ]
  refine heldTake (v := ?_) 1 34 rfl rfl (by kernel_rfl) (by kernel_rfl) (by kernel_rfl) (fun _ _ _ h => h) (by rfl) (fun w hSw => ?_) (by assumption) ?_
  rotate_left
  · (try dsimp only at hSw); first | (go_simp; done) | (go_simp; with_reducible rfl)
  simp only [List.setIfInBounds_toArray, List.set_cons_zero, List.set_cons_succ]
  refine heldSkip 2 35 rfl rfl (by kernel_rfl) (by kernel_rfl) (by kernel_rfl) (fun _ _ _ h => h) (by rfl) (by assumption) ?_
  simp only [List.setIfInBounds_toArray, List.set_cons_zero, List.set_cons_succ]
  refine heldSkip 3 36 rfl rfl (by kernel_rfl) (by kernel_rfl) (by kernel_rfl) (fun _ _ _ h => h) (by rfl) (by assumption) ?_
  simp only [List.setIfInBounds_toArray, List.set_cons_zero, List.set_cons_succ]
  refine heldSkip 4 37 rfl rfl (by kernel_rfl) (by kernel_rfl) (by kernel_rfl) (fun _ _ _ h => h) (by rfl) (by assumption) ?_
  simp only [List.setIfInBounds_toArray, List.set_cons_zero, List.set_cons_succ]
  refine heldSkip 5 38 rfl rfl (by kernel_rfl) (by kernel_rfl) (by kernel_rfl) (fun _ _ _ h => h) (by rfl) (by assumption) ?_
  simp only [List.setIfInBounds_toArray, List.set_cons_zero, List.set_cons_succ]
  refine heldSkip 6 39 rfl rfl (by kernel_rfl) (by kernel_rfl) (by kernel_rfl) (fun _ _ _ h => h) (by rfl) (by assumption) ?_
  simp only [List.setIfInBounds_toArray, List.set_cons_zero, List.set_cons_succ]
  refine heldSkip 7 40 rfl rfl (by kernel_rfl) (by kernel_rfl) (by kernel_rfl) (fun _ _ _ h => h) (by rfl) (by assumption) ?_
  simp only [List.setIfInBounds_toArray, List.set_cons_zero, List.set_cons_succ]
  refine heldSkip 8 41 rfl rfl (by kernel_rfl) (by kernel_rfl) (by kernel_rfl) (fun _ _ _ h => h) (by rfl) (by assumption) ?_
  simp only [List.setIfInBounds_toArray, List.set_cons_zero, List.set_cons_succ]
  refine heldSkip 9 42 rfl rfl (by kernel_rfl) (by kernel_rfl) (by kernel_rfl) (fun _ _ _ h => h) (by rfl) (by assumption) ?_
  simp only [List.setIfInBounds_toArray, List.set_cons_zero, List.set_cons_succ]
  refine heldSkip 10 43 rfl rfl (by kernel_rfl) (by kernel_rfl) (by kernel_rfl) (fun _ _ _ h => h) (by rfl) (by assumption) ?_
  simp only [List.setIfInBounds_toArray, List.set_cons_zero, List.set_cons_succ]
  refine heldTake (v := ?_) 11 44 rfl rfl (by kernel_rfl) (by kernel_rfl) (by kernel_rfl) (fun _ _ _ h => h) (by rfl) (fun w hSw => ?_) (by assumption) ?_
  rotate_left
  · (try dsimp only at hSw); first | (go_simp; done) | (go_simp; with_reducible rfl)
  simp only [List.setIfInBounds_toArray, List.set_cons_zero, List.set_cons_succ]
  refine heldTake (v := ?_) 12 45 rfl rfl (by kernel_rfl) (by kernel_rfl) (by kernel_rfl) (fun _ _ _ h => h) (by rfl) (fun w hSw => ?_) (by assumption) ?_
  rotate_left
  · (try dsimp only at hSw); first | (go_simp; done) | (go_simp; with_reducible rfl)
  simp only [List.setIfInBounds_toArray, List.set_cons_zero, List.set_cons_succ]
  refine heldTake (v := ?_) 13 46 rfl rfl (by kernel_rfl) (by kernel_rfl) (by kernel_rfl) (fun _ _ _ h => h) (by rfl) (fun w hSw => ?_) (by assumption) ?_
  rotate_left
  · (try dsimp only at hSw); first | (go_simp; done) | (go_simp; with_reducible rfl)
  simp only [List.setIfInBounds_toArray, List.set_cons_zero, List.set_cons_succ]
  refine heldTake (v := ?_) 14 47 rfl rfl (by kernel_rfl) (by kernel_rfl) (by kernel_rfl) (fun _ _ _ h => h) (by rfl) (fun w hSw => ?_) (by assumption) ?_
  rotate_left
  · (try dsimp only at hSw); first | (go_simp; done) | (go_simp; with_reducible rfl)
  simp only [List.setIfInBounds_toArray, List.set_cons_zero, List.set_cons_succ]
  refine heldSkip 15 48 rfl rfl (by kernel_rfl) (by kernel_rfl) (by kernel_rfl) (fun _ _ _ h => h) (by rfl) (by assumption) ?_
  simp only [List.setIfInBounds_toArray, List.set_cons_zero, List.set_cons_succ]
  refine heldSkip 16 49 rfl rfl (by kernel_rfl) (by kernel_rfl) (by kernel_rfl) (fun _ _ _ h => h) (by rfl) (by assumption) ?_
  simp only [List.setIfInBounds_toArray, List.set_cons_zero, List.set_cons_succ]
  refine heldSkip 17 50 rfl rfl (by kernel_rfl) (by kernel_rfl) (by kernel_rfl) (fun _ _ _ h => h) (by rfl) (by assumption) ?_
  simp only [List.setIfInBounds_toArray, List.set_cons_zero, List.set_cons_succ]
  refine heldSkip 18 51 rfl rfl (by kernel_rfl) (by kernel_rfl) (by kernel_rfl) (fun _ _ _ h => h) (by rfl) (by assumption) ?_
  simp only [List.setIfInBounds_toArray, List.set_cons_zero, List.set_cons_succ]
  refine heldSkip 19 52 rfl rfl (by kernel_rfl) (by kernel_rfl) (by kernel_rfl) (fun _ _ _ h => h) (by rfl) (by assumption) ?_
  simp only [List.setIfInBounds_toArray, List.set_cons_zero, List.set_cons_succ]
  refine heldSkip 20 53 rfl rfl (by kernel_rfl) (by kernel_rfl) (by kernel_rfl) (fun _ _ _ h => h) (by rfl) (by assumption) ?_
  simp only [List.setIfInBounds_toArray, List.set_cons_zero, List.set_cons_succ]
  refine heldSkip 21 54 rfl rfl (by kernel_rfl) (by kernel_rfl) (by kernel_rfl) (fun _ _ _ h => h) (by rfl) (by assumption) ?_
  simp only [List.setIfInBounds_toArray, List.set_cons_zero, List.set_cons_succ]
  refine heldSkip 22 55 rfl rfl (by kernel_rfl) (by kernel_rfl) (by kernel_rfl) (fun _ _ _ h => h) (by rfl) (by assumption) ?_
  simp only [List.setIfInBounds_toArray, List.set_cons_zero, List.set_cons_succ]
  refine heldSkip 23 56 rfl rfl (by kernel_rfl) (by kernel_rfl) (by kernel_rfl) (fun _ _ _ h => h) (by rfl) (by assumption) ?_
  simp only [List.setIfInBounds_toArray, List.set_cons_zero, List.set_cons_succ]
  refine heldSkip 24 57 rfl rfl (by kernel_rfl) (by kernel_rfl) (by kernel_rfl) (fun _ _ _ h => h) (by rfl) (by assumption) ?_
  simp only [List.setIfInBounds_toArray, List.set_cons_zero, List.set_cons_succ]
  refine heldSkip 25 58 rfl rfl (by kernel_rfl) (by kernel_rfl) (by kernel_rfl) (fun _ _ _ h => h) (by rfl) (by assumption) ?_
  simp only [List.setIfInBounds_toArray, List.set_cons_zero, List.set_cons_succ]
  refine heldTake (v := ?_) 26 59 rfl rfl (by kernel_rfl) (by kernel_rfl) (by kernel_rfl) (fun _ _ _ h => h) (by rfl) (fun w hSw => ?_) (by assumption) ?_
  rotate_left
  · (try dsimp only at hSw); first | (go_simp; done) | (go_simp; with_reducible rfl)
  simp only [List.setIfInBounds_toArray, List.set_cons_zero, List.set_cons_succ]
  refine heldTake (v := ?_) 27 60 rfl rfl (by kernel_rfl) (by kernel_rfl) (by kernel_rfl) (fun _ _ _ h => h) (by rfl) (fun w hSw => ?_) (by assumption) ?_
  rotate_left
  · (try dsimp only at hSw); first | (go_simp; done) | (go_simp; with_reducible rfl)
  simp only [List.setIfInBounds_toArray, List.set_cons_zero, List.set_cons_succ]
  refine wpAnyH_done (by kernel_rfl) ?_ _
  have HB9 : Hid (Below w.heap.size w _) := hHeld.2.2.2.2.2.2
  clear hHeld HS
  go_wp2
  go_ret
  exact ⟨by rw [HE.out]; rfl, HB9.out⟩

theorem pCheck_any (x : PPr) (a : Option Addr) (n cap : Nat) (ts : List Int) (w : World) (hn : ts.length = n) (h4 : n ≤ 65536) (hr : RdI .i64 w a ts) :
    Calls Try.prog 11 #[.agg (cellsP x), .slice a n cap] w fun e w' => e = .returned (.int .i64 (chkP x ts)) ∧ Below w.heap.size w w' := by
  cases hk : kindB x.kind with
  | false => exact pCheck_kind x a n cap ts w hn h4 hr hk ⟨_, rfl⟩ ⟨_, rfl⟩
  | true =>
    cases hh : hasB x n with
    | false => exact pCheck_has x a n cap ts w hn h4 hr hk hh ⟨_, rfl⟩ ⟨_, rfl⟩
    | true =>
      cases ho : askO x.kind with
      | true =>
        have hv := askV_no ho
        by_cases hne : atI ts x.other = atI ts x.col
        · exact pCheck_oth_true x a n cap ts w hn h4 hr hk hh hv ho hne
        · exact pCheck_oth_false x a n cap ts w hn h4 hr hk hh hv ho hne
      | false =>
        cases hv : askV x.kind with
        | false => exact pCheck_one x a n cap ts w hn h4 hr hk hh hv ho
        | true =>
          cases hq : okV x.val with
          | false => exact pCheck_ok x a n cap ts w hn h4 hr hk hh hv ho hq
          | true =>
            cases hf : fitsV x.val (atI ts x.col) with
            | true => exact pCheck_val_true x a n cap ts w hn h4 hr hk hh hv ho hq hf
            | false => exact pCheck_val_false x a n cap ts w hn h4 hr hk hh hv ho hq hf

end Go.Proofs.Ytmolklaammfbmaa
