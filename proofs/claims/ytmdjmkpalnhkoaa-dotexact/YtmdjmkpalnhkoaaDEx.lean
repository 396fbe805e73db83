/-
  DotExact's walk: what the law answers, whatever its vectors and dots.
-/
import Derived.Test.YtmdjmkpalnhkoaaRows
import Derived.Test.YtmdjmkpalnhkoaaDLst
import Derived.Test.YtmdjmkpalnhkoaaHeld
import Derived.Deep.Cut
namespace Go.Proofs.Ytmdjmkpalnhkoaa
open Go.RowKit Go.Lib
set_option linter.unusedVariables false

/-- What stays while the law goes on. -/
structure KE (w0 : World) (a b l x y z : Option Addr) (g : Nat) (A B : List Int) (L : List (List Int)) (dp dk fp fk : Int) (w : World) : Prop where
  RA : RdI .i64 w a A
  RB : RdI .i64 w b B
  RL : RdII w l L
  XA : RdI .i64 w x A
  YB : RdI .i64 w y B
  ZL : RdII w z L
  d0 : w.cell? ⟨g, 0, none⟩ = some (.int .i64 dp)
  d1 : w.cell? ⟨g, 1, none⟩ = some (.int .i64 dk)
  f0 : w.cell? ⟨g + 1, 0, none⟩ = some (.int .i64 fp)
  f1 : w.cell? ⟨g + 1, 1, none⟩ = some (.int .i64 fk)
  X : Below w0.heap.size w0 w

theorem KE.later {w0 : World} {a b l x y z : Option Addr} {g : Nat} {A B : List Int} {L : List (List Int)} {dp dk fp fk : Int} {w w' : World} (h : KE w0 a b l x y z g A B L dp dk fp fk w) (hb : Below w.heap.size w w') : KE w0 a b l x y z g A B L dp dk fp fk w' :=
  ⟨h.RA.later hb, h.RB.later hb, h.RL.later hb, h.XA.later hb, h.YB.later hb, h.ZL.later hb, cell_later hb h.d0, cell_later hb h.d1, cell_later hb h.f0, cell_later hb h.f1, chain h.X hb⟩

theorem keepFour {W w w' : World} {g h : Nat} {p k p' k' : Int} (hb : Below w.heap.size w w')
    (hh : w.cell? ⟨g, 0, none⟩ = some (.int .i64 p) ∧ w.cell? ⟨g, 1, none⟩ = some (.int .i64 k) ∧ w.cell? ⟨h, 0, none⟩ = some (.int .i64 p') ∧ w.cell? ⟨h, 1, none⟩ = some (.int .i64 k') ∧ Hid (Below W.heap.size W w)) :
    w'.cell? ⟨g, 0, none⟩ = some (.int .i64 p) ∧ w'.cell? ⟨g, 1, none⟩ = some (.int .i64 k) ∧ w'.cell? ⟨h, 0, none⟩ = some (.int .i64 p') ∧ w'.cell? ⟨h, 1, none⟩ = some (.int .i64 k') ∧ Hid (Below W.heap.size W w') :=
  ⟨cell_later hb hh.1, cell_later hb hh.2.1, cell_later hb hh.2.2.1, cell_later hb hh.2.2.2.1, chain hh.2.2.2.2.out hb⟩

theorem ofHeld4 {W w : World} {P Q R S : Prop} (h : P ∧ Q ∧ R ∧ S ∧ Hid (Below w.heap.size w W)) : Below w.heap.size w W := h.2.2.2.2.out

theorem merge_len {A B : List Int} (ka : chkD A = 0) (kb : chkD B = 0) (h : A.length ≠ B.length) : mergeD A B = ([], 2) := by unfold mergeD; rw [if_neg (by simp [ka]), if_neg (by simp [kb]), if_pos h]
theorem merge_ok {A B : List Int} (ka : chkD A = 0) (kb : chkD B = 0) (h : A.length = B.length) : mergeD A B = (maxD A B, 0) := by unfold mergeD; rw [if_neg (by simp [ka]), if_neg (by simp [kb]), if_neg (by simp [h])]
theorem merge_a {A B : List Int} (ka : chkD A ≠ 0) : mergeD A B = ([], chkD A) := by unfold mergeD; rw [if_pos ka]
theorem merge_b {A B : List Int} (ka : chkD A = 0) (kb : chkD B ≠ 0) : mergeD A B = ([], chkD B) := by unfold mergeD; rw [if_neg (by simp [ka]), if_pos kb]
theorem add_err {A : List Int} {p k : Int} (ka : chkD A ≠ 0) : addD A p k = ([], chkD A) := by unfold addD; rw [if_pos ka]
theorem add_put {A : List Int} {p k : Int} (ka : chkD A = 0) (hx : nextD A p k = true ∧ k ≤ 1073741824) : addD A p k = (A.set p.toNat k, 0) := by unfold addD; rw [if_neg (by simp [ka]), if_pos hx]
theorem add_arg {A : List Int} {p k : Int} (ka : chkD A = 0) (hx : ¬ (nextD A p k = true ∧ k ≤ 1073741824)) : addD A p k = ([], 1) := by unfold addD; rw [if_neg (by simp [ka]), if_neg hx]

set_option maxRecDepth 100000 in
set_option maxHeartbeats 40000000 in
theorem dexact_some (D : DotApi) (a b l : Option Addr) (n m q cap dap eap : Nat) (A B : List Int) (L : List (List Int)) (dp dk fp fk : Int) (w : World) (hA : A.length = n) (hB : B.length = m) (hL : L.length = q) (n30 : n ≤ 30) (m30 : m ≤ 30) (q30 : q ≤ 30) (hv : ∀ v ∈ L, v.length ≤ 30 ∧ All64 v) (hca : n ≤ cap) (hcb : m ≤ dap) (na : a = none → A = [] ∧ cap = 0) (nb : b = none → B = [] ∧ dap = 0)
    (ra : RdI .i64 w a A) (rb : RdI .i64 w b B) (rl : RdII w l L) (a64 : All64 A) (b64 : All64 B) (i0 : In64 dp) (i1 : In64 dk) (i2 : In64 fp) (i3 : In64 fk) (hh : heavyD L = false) :
    Calls Try.prog 3 #[.slice a n cap, .slice b m dap, .agg #[.int .i64 dp, .int .i64 dk], .agg #[.int .i64 fp, .int .i64 fk], .slice l q eap] w fun e w' => e = .returned (.bool true) ∧ Below w.heap.size w w' := by
  have LA : Hid (A.length = n) := hA
  have LB : Hid (B.length = m) := hB
  have LL : Hid (L.length = q) := hL
  have A64 : Hid (All64 A) := a64
  have B64 : Hid (All64 B) := b64
  have HV : Hid (∀ v ∈ L, v.length ≤ 65536 ∧ All64 v) := fun v h => ⟨by have := (hv v h).1; omega, (hv v h).2⟩
  have HV1 : Hid (∀ v ∈ L, v.length ≤ 65536) := fun v h => by have := (hv v h).1; omega
  have HV2 : Hid (∀ v ∈ L, v.length ≤ 9223372036854775807) := fun v h => by have := (hv v h).1; omega
  have HH : Hid (heavyD L = false) := hh
  have H2 : Hid (heavyD [A, B] = false) := by show _ = _; simp [heavyD]; omega
  have NA : Hid (a = none → A = [] ∧ cap = 0) := na
  have NB : Hid (b = none → B = [] ∧ dap = 0) := nb
  have SA : Hid (∀ W : World, Below w.heap.size w W → SlI W (.slice a n cap) A) := fun W h => ⟨a, cap, by rw [hA], by rw [hA]; exact hca, ra.later h, na⟩
  have SB : Hid (∀ W : World, Below w.heap.size w W → SlI W (.slice b m dap) B) := fun W h => ⟨b, dap, by rw [hB], by rw [hB]; exact hcb, rb.later h, nb⟩
  have RA : Hid (RdI .i64 w a A) := ra
  have RB : Hid (RdI .i64 w b B) := rb
  have RL : Hid (RdII w l L) := rl
  have bx := box2 w w.heap.size rfl (.int .i64 dp) (.int .i64 dk) 24
  have by' := box2 (w.alloc (.cells #[.int .i64 dp, .int .i64 dk] 24)) (w.heap.size + 1) (by simp) (.int .i64 fp) (.int .i64 fk) 24
  have HBX : Hid (((w.alloc (.cells #[.int .i64 dp, .int .i64 dk] 24)).alloc (.cells #[.int .i64 fp, .int .i64 fk] 24)).cell? ⟨w.heap.size, 0, none⟩ = some (.int .i64 dp) ∧ ((w.alloc (.cells #[.int .i64 dp, .int .i64 dk] 24)).alloc (.cells #[.int .i64 fp, .int .i64 fk] 24)).cell? ⟨w.heap.size, 1, none⟩ = some (.int .i64 dk) ∧ ((w.alloc (.cells #[.int .i64 dp, .int .i64 dk] 24)).alloc (.cells #[.int .i64 fp, .int .i64 fk] 24)).cell? ⟨w.heap.size + 1, 0, none⟩ = some (.int .i64 fp) ∧ ((w.alloc (.cells #[.int .i64 dp, .int .i64 dk] 24)).alloc (.cells #[.int .i64 fp, .int .i64 fk] 24)).cell? ⟨w.heap.size + 1, 1, none⟩ = some (.int .i64 fk)) := ⟨cell_later (alloc_below _ _) bx.1, cell_later (alloc_below _ _) bx.2, by'.1, by'.2⟩
  have HX : Hid (Below w.heap.size w ((w.alloc (.cells #[.int .i64 dp, .int .i64 dk] 24)).alloc (.cells #[.int .i64 fp, .int .i64 fk] 24))) := below_two _ _ _
  clear hA hB hL hv na nb ra rb rl a64 b64 hh bx by' hca hcb
  go_enter Try.func3, Try.ntmps3
  go_wp2_with fail
  refine (heavyD_few (some ⟨w.heap.size + 1 + 1, 0, none⟩) 2 2 [A, B] _ rfl (by omega) (fun v hv => by
    simp only [List.mem_cons, List.not_mem_nil, or_false] at hv
    rcases hv with rfl | rfl
    · rw [LA.out]; omega
    · rw [LB.out]; omega) (rows_two _ _ (by simp) (SA.out _ HX.out) (SB.out _ HX.out))).mono ?_
  rintro e w1 ⟨rfl, hw1⟩
  rw [H2.out]
  have hb1 : Below ((w.alloc (.cells #[.int .i64 dp, .int .i64 dk] 24)).alloc (.cells #[.int .i64 fp, .int .i64 fk] 24)).heap.size ((w.alloc (.cells #[.int .i64 dp, .int .i64 dk] 24)).alloc (.cells #[.int .i64 fp, .int .i64 fk] 24)) w1 := by rw [hw1]; exact alloc_below _ _
  have HBX1 : Hid (w1.cell? ⟨w.heap.size, 0, none⟩ = some (.int .i64 dp) ∧ w1.cell? ⟨w.heap.size, 1, none⟩ = some (.int .i64 dk) ∧ w1.cell? ⟨w.heap.size + 1, 0, none⟩ = some (.int .i64 fp) ∧ w1.cell? ⟨w.heap.size + 1, 1, none⟩ = some (.int .i64 fk)) := ⟨cell_later hb1 HBX.out.1, cell_later hb1 HBX.out.2.1, cell_later hb1 HBX.out.2.2.1, cell_later hb1 HBX.out.2.2.2⟩
  have HX1 : Hid (Below w.heap.size w w1) := chain HX.out hb1
  clear hw1 hb1 HX HBX
  go_wp2_with fail
  refine (heavyD_few l q eap L _ LL.out q30 HV2.out (RL.out.later HX1.out)).mono ?_
  rintro e w2 ⟨rfl, hw2⟩
  subst w2
  rw [HH.out]
  go_wp2_with fail
  refine (twinInts_any a n cap A _ LA.out (by omega) NA.out (RA.out.later HX1.out)).mono ?_
  rintro e w3 ⟨ax, cx, rfl, hcx, _, _, hrx, hb3⟩
  have HX3 : Hid (Below w.heap.size w w3) := chain HX1.out hb3
  have RX3 : Hid (RdI .i64 w3 ax A) := hrx
  clear hrx
  go_wp2_with fail
  refine (twinInts_any b m dap B _ LB.out (by omega) NB.out (RB.out.later HX3.out)).mono ?_
  rintro e w4 ⟨ay, cy, rfl, hcy, _, _, hry, hb4⟩
  have HX4 : Hid (Below w.heap.size w w4) := chain HX3.out hb4
  have RX4 : Hid (RdI .i64 w4 ax A) := RX3.out.later hb4
  have RY4 : Hid (RdI .i64 w4 ay B) := hry
  clear hry
  go_wp2_with fail
  refine (twinIntRows_any l q eap L _ LL.out (by omega) HV1.out (RL.out.later HX4.out)).mono ?_
  rintro e w5 ⟨az, cz, rfl, hcz, hrz, _, hb5⟩
  have hb15 : Below w1.heap.size w1 w5 := chain hb3 (chain hb4 hb5)
  obtain ⟨g, hg⟩ : ∃ g, w.heap.size = g := ⟨_, rfl⟩
  rw [hg] at HBX1
  have K : Hid (KE w a b l ax ay az g A B L dp dk fp fk w5) := ⟨RA.out.later (chain HX4.out hb5), RB.out.later (chain HX4.out hb5), RL.out.later (chain HX4.out hb5), RX4.out.later hb5, RY4.out.later hb5, hrz, cell_later hb15 HBX1.out.1, cell_later hb15 HBX1.out.2.1, cell_later hb15 HBX1.out.2.2.1, cell_later hb15 HBX1.out.2.2.2, chain HX4.out hb5⟩
  clear hb3 hb4 hb5 hb15 hrz HX1 HBX1 HX3 HX4 RX3 RX4 RY4 RA RB RL SA SB
  go_wp2_with fail
  refine (rVector_any a n cap A _ LA.out (by omega) K.out.RA).mono ?_
  rintro e wv ⟨rfl, hw2⟩
  subst wv
  obtain ⟨wv, rfl⟩ : ∃ x, x = w5 := ⟨_, rfl⟩
  have hg' : Hid (w.heap.size = g) := hg
  go_upto_region 5 with fail
  clear hg
  go_cut [75] from 36 (fun s75 wx => s75 = .bool false ∧ Hid (KE w a b l ax ay az g A B L dp dk fp fk wx))
  case first =>
    have HS := And.intro K.out.d0 (And.intro K.out.d1 (And.intro K.out.f0 (And.intro K.out.f1 (show Hid (Below wv.heap.size wv wv.drew) from (Below.refl _ _).drew))))
    have C1 := fun (W : World) (h : Below wv.heap.size wv W) => D.check ax n cx A W LA.out (by omega) A64.out (K.out.XA.later h)
    have C7 := fun (W : World) (h : Below wv.heap.size wv W) => D.has ax n cx dp dk A W LA.out (by omega) A64.out i0 i1 (K.out.XA.later h)
    have C10 := fun (W : World) (h : Below wv.heap.size wv W) => rHas_any a n cap dp dk A W LA.out (by omega) (K.out.RA.later h)
    have C16 := fun (W : World) (h : Below wv.heap.size wv W) => D.next ax n cx dp dk A W LA.out (by omega) A64.out i0 i1 (K.out.XA.later h)
    have C19 := fun (W : World) (h : Below wv.heap.size wv W) => rNext_any a n cap dp dk A W LA.out (by omega) A64.out i1 (K.out.RA.later h)
    have C25 := fun (W : World) (h : Below wv.heap.size wv W) => D.le ax ay n m cx cy A B W LA.out LB.out (by omega) (by omega) A64.out B64.out (K.out.XA.later h) (K.out.YB.later h)
    have C28 := fun (W : World) (h : Below wv.heap.size wv W) => rLe_any a b n m cap dap A B W LA.out LB.out (by omega) (by omega) (K.out.RA.later h) (K.out.RB.later h)
    have C34 := fun (W : World) (h : Below wv.heap.size wv W) => D.less dp dk fp fk W i0 i1 i2 i3
    have C37 := fun (W : World) (h : Below wv.heap.size wv W) => rLessDot_any dp dk fp fk W
    generalize chkD A = ka at *
    generalize hasD A dp dk = kh at *
    generalize nextD A dp dk = kn at *
    generalize leD A B = kl at *
    generalize lessD dp dk fp fk = ks at *
    refine wp_region_held_drew (S := (fun w' => w'.cell? ⟨g, 0, none⟩ = some (.int .i64 dp) ∧ w'.cell? ⟨g, 1, none⟩ = some (.int .i64 dk) ∧ w'.cell? ⟨g + 1, 0, none⟩ = some (.int .i64 fp) ∧ w'.cell? ⟨g + 1, 1, none⟩ = some (.int .i64 fk) ∧ Hid (Below wv.heap.size wv w'))) (by kernel_rfl) HS (fun hHeld => ?_)
    refine heldTake (v := ?_) 0 36 rfl rfl (by kernel_rfl) (by kernel_rfl) (by kernel_rfl) (fun _ _ _ h => h) (by rfl) (fun w hSw => ?_) (by assumption) ?_
    rotate_left
    · (try dsimp only at hSw); first | (go_simp; done) | (go_simp; with_reducible rfl)
    simp only [List.setIfInBounds_toArray, List.set_cons_zero, List.set_cons_succ]
    refine heldTake (v := ?_) 2 38 rfl rfl (by kernel_rfl) (by kernel_rfl) (by kernel_rfl) (fun _ _ _ h => h) (by rfl) (fun w hSw => ?_) (by assumption) ?_
    rotate_left
    · (try dsimp only at hSw); first | (go_simp; done) | (go_simp; with_reducible rfl)
    simp only [List.setIfInBounds_toArray, List.set_cons_zero, List.set_cons_succ]
    refine heldOne 1 rfl (by kernel_rfl) (by rfl) (fun K2 hK => ?_)
    go_simp
    refine (C1 _ (ofHeld4 (by assumption))).mono ?_
    rintro e wx1 ⟨rfl, hbx1⟩
    refine hK.out _ _ ?_ (fun hHeld => ?_)
    · exact keepFour hbx1 (by assumption)
    clear hK K2
    try simp only [List.setIfInBounds_toArray, List.set_cons_zero, List.set_cons_succ]
    refine heldTake (v := ?_) 3 39 rfl rfl (by kernel_rfl) (by kernel_rfl) (by kernel_rfl) (fun _ _ _ h => h) (by rfl) (fun w hSw => ?_) (by assumption) ?_
    rotate_left
    · (try dsimp only at hSw); first | (go_simp; done) | (go_simp; with_reducible rfl)
    simp only [List.setIfInBounds_toArray, List.set_cons_zero, List.set_cons_succ]
    refine heldTake (v := ?_) 4 40 rfl rfl (by kernel_rfl) (by kernel_rfl) (by kernel_rfl) (fun _ _ _ h => h) (by rfl) (fun w hSw => ?_) (by assumption) ?_
    rotate_left
    · (try dsimp only at hSw); first | (go_simp; done) | (go_simp; with_reducible rfl)
    simp only [List.setIfInBounds_toArray, List.set_cons_zero, List.set_cons_succ]
    refine heldTake (v := ?_) 5 41 rfl rfl (by kernel_rfl) (by kernel_rfl) (by kernel_rfl) (fun _ _ _ h => h) (by rfl) (fun w hSw => ?_) (by assumption) ?_
    rotate_left
    · (try dsimp only at hSw); first | (go_simp; done) | (go_simp; with_reducible rfl)
    simp only [List.setIfInBounds_toArray, List.set_cons_zero, List.set_cons_succ]
    refine heldTake (v := ?_) 6 42 rfl rfl (by kernel_rfl) (by kernel_rfl) (by kernel_rfl) (fun _ _ _ h => h) (by rfl) (fun w hSw => ?_) (by assumption) ?_
    rotate_left
    · (try dsimp only at hSw); first | (go_simp; done) | (go_simp; with_reducible rfl)
    simp only [List.setIfInBounds_toArray, List.set_cons_zero, List.set_cons_succ]
    refine heldTake (v := ?_) 8 44 rfl rfl (by kernel_rfl) (by kernel_rfl) (by kernel_rfl) (fun _ _ _ h => h) (by rfl) (fun w hSw => ?_) (by assumption) ?_
    rotate_left
    · (try dsimp only at hSw); first | (go_simp; done) | (go_simp; with_reducible rfl)
    simp only [List.setIfInBounds_toArray, List.set_cons_zero, List.set_cons_succ]
    refine heldTake (v := ?_) 9 45 rfl rfl (by kernel_rfl) (by kernel_rfl) (by kernel_rfl) (fun _ _ _ h => h) (by rfl) (fun w hSw => ?_) (by assumption) ?_
    rotate_left
    · (try dsimp only at hSw); first | (go_simp; done) | (go_simp; with_reducible rfl)
    simp only [List.setIfInBounds_toArray, List.set_cons_zero, List.set_cons_succ]
    refine heldOne 7 rfl (by kernel_rfl) (by rfl) (fun K2 hK => ?_)
    go_simp
    refine (C7 _ (ofHeld4 (by assumption))).mono ?_
    rintro e wx7 ⟨rfl, hbx7⟩
    refine hK.out _ _ ?_ (fun hHeld => ?_)
    · exact keepFour hbx7 (by assumption)
    clear hK K2
    try simp only [List.setIfInBounds_toArray, List.set_cons_zero, List.set_cons_succ]
    refine heldOne 10 rfl (by kernel_rfl) (by rfl) (fun K2 hK => ?_)
    go_simp
    refine (C10 _ (ofHeld4 (by assumption))).mono ?_
    rintro e wx10 ⟨rfl, hbx10⟩
    refine hK.out _ _ ?_ (fun hHeld => ?_)
    · exact keepFour hbx10 (by assumption)
    clear hK K2
    try simp only [List.setIfInBounds_toArray, List.set_cons_zero, List.set_cons_succ]
    refine heldTake (v := ?_) 11 47 rfl rfl (by kernel_rfl) (by kernel_rfl) (by kernel_rfl) (fun _ _ _ h => h) (by rfl) (fun w hSw => ?_) (by assumption) ?_
    rotate_left
    · (try dsimp only at hSw); first | (go_simp; done) | (go_simp; with_reducible rfl)
    simp only [List.setIfInBounds_toArray, List.set_cons_zero, List.set_cons_succ]
    refine heldTake (v := ?_) 12 48 rfl rfl (by kernel_rfl) (by kernel_rfl) (by kernel_rfl) (fun _ _ _ h => h) (by rfl) (fun w hSw => ?_) (by assumption) ?_
    rotate_left
    · (try dsimp only at hSw); first | (go_simp; done) | (go_simp; with_reducible rfl)
    simp only [List.setIfInBounds_toArray, List.set_cons_zero, List.set_cons_succ]
    refine heldTake (v := ?_) 13 49 rfl rfl (by kernel_rfl) (by kernel_rfl) (by kernel_rfl) (fun _ _ _ h => h) (by rfl) (fun w hSw => ?_) (by assumption) ?_
    rotate_left
    · (try dsimp only at hSw); first | (go_simp; done) | (go_simp; with_reducible rfl)
    simp only [List.setIfInBounds_toArray, List.set_cons_zero, List.set_cons_succ]
    refine heldTake (v := ?_) 14 50 rfl rfl (by kernel_rfl) (by kernel_rfl) (by kernel_rfl) (fun _ _ _ h => h) (by rfl) (fun w hSw => ?_) (by assumption) ?_
    rotate_left
    · (try dsimp only at hSw); first | (go_simp; done) | (go_simp; with_reducible rfl)
    simp only [List.setIfInBounds_toArray, List.set_cons_zero, List.set_cons_succ]
    refine heldTake (v := ?_) 15 51 rfl rfl (by kernel_rfl) (by kernel_rfl) (by kernel_rfl) (fun _ _ _ h => h) (by rfl) (fun w hSw => ?_) (by assumption) ?_
    rotate_left
    · (try dsimp only at hSw); first | (go_simp; done) | (go_simp; with_reducible rfl)
    simp only [List.setIfInBounds_toArray, List.set_cons_zero, List.set_cons_succ]
    refine heldTake (v := ?_) 17 53 rfl rfl (by kernel_rfl) (by kernel_rfl) (by kernel_rfl) (fun _ _ _ h => h) (by rfl) (fun w hSw => ?_) (by assumption) ?_
    rotate_left
    · (try dsimp only at hSw); first | (go_simp; done) | (go_simp; with_reducible rfl)
    simp only [List.setIfInBounds_toArray, List.set_cons_zero, List.set_cons_succ]
    refine heldTake (v := ?_) 18 54 rfl rfl (by kernel_rfl) (by kernel_rfl) (by kernel_rfl) (fun _ _ _ h => h) (by rfl) (fun w hSw => ?_) (by assumption) ?_
    rotate_left
    · (try dsimp only at hSw); first | (go_simp; done) | (go_simp; with_reducible rfl)
    simp only [List.setIfInBounds_toArray, List.set_cons_zero, List.set_cons_succ]
    refine heldOne 16 rfl (by kernel_rfl) (by rfl) (fun K2 hK => ?_)
    go_simp
    refine (C16 _ (ofHeld4 (by assumption))).mono ?_
    rintro e wx16 ⟨rfl, hbx16⟩
    refine hK.out _ _ ?_ (fun hHeld => ?_)
    · exact keepFour hbx16 (by assumption)
    clear hK K2
    try simp only [List.setIfInBounds_toArray, List.set_cons_zero, List.set_cons_succ]
    refine heldOne 19 rfl (by kernel_rfl) (by rfl) (fun K2 hK => ?_)
    go_simp
    refine (C19 _ (ofHeld4 (by assumption))).mono ?_
    rintro e wx19 ⟨rfl, hbx19⟩
    refine hK.out _ _ ?_ (fun hHeld => ?_)
    · exact keepFour hbx19 (by assumption)
    clear hK K2
    try simp only [List.setIfInBounds_toArray, List.set_cons_zero, List.set_cons_succ]
    refine heldTake (v := ?_) 20 56 rfl rfl (by kernel_rfl) (by kernel_rfl) (by kernel_rfl) (fun _ _ _ h => h) (by rfl) (fun w hSw => ?_) (by assumption) ?_
    rotate_left
    · (try dsimp only at hSw); first | (go_simp; done) | (go_simp; with_reducible rfl)
    simp only [List.setIfInBounds_toArray, List.set_cons_zero, List.set_cons_succ]
    refine heldTake (v := ?_) 21 57 rfl rfl (by kernel_rfl) (by kernel_rfl) (by kernel_rfl) (fun _ _ _ h => h) (by rfl) (fun w hSw => ?_) (by assumption) ?_
    rotate_left
    · (try dsimp only at hSw); first | (go_simp; done) | (go_simp; with_reducible rfl)
    simp only [List.setIfInBounds_toArray, List.set_cons_zero, List.set_cons_succ]
    refine heldTake (v := ?_) 22 58 rfl rfl (by kernel_rfl) (by kernel_rfl) (by kernel_rfl) (fun _ _ _ h => h) (by rfl) (fun w hSw => ?_) (by assumption) ?_
    rotate_left
    · (try dsimp only at hSw); first | (go_simp; done) | (go_simp; with_reducible rfl)
    simp only [List.setIfInBounds_toArray, List.set_cons_zero, List.set_cons_succ]
    refine heldTake (v := ?_) 23 59 rfl rfl (by kernel_rfl) (by kernel_rfl) (by kernel_rfl) (fun _ _ _ h => h) (by rfl) (fun w hSw => ?_) (by assumption) ?_
    rotate_left
    · (try dsimp only at hSw); first | (go_simp; done) | (go_simp; with_reducible rfl)
    simp only [List.setIfInBounds_toArray, List.set_cons_zero, List.set_cons_succ]
    refine heldTake (v := ?_) 24 60 rfl rfl (by kernel_rfl) (by kernel_rfl) (by kernel_rfl) (fun _ _ _ h => h) (by rfl) (fun w hSw => ?_) (by assumption) ?_
    rotate_left
    · (try dsimp only at hSw); first | (go_simp; done) | (go_simp; with_reducible rfl)
    simp only [List.setIfInBounds_toArray, List.set_cons_zero, List.set_cons_succ]
    refine heldTake (v := ?_) 26 62 rfl rfl (by kernel_rfl) (by kernel_rfl) (by kernel_rfl) (fun _ _ _ h => h) (by rfl) (fun w hSw => ?_) (by assumption) ?_
    rotate_left
    · (try dsimp only at hSw); first | (go_simp; done) | (go_simp; with_reducible rfl)
    simp only [List.setIfInBounds_toArray, List.set_cons_zero, List.set_cons_succ]
    refine heldTake (v := ?_) 27 63 rfl rfl (by kernel_rfl) (by kernel_rfl) (by kernel_rfl) (fun _ _ _ h => h) (by rfl) (fun w hSw => ?_) (by assumption) ?_
    rotate_left
    · (try dsimp only at hSw); first | (go_simp; done) | (go_simp; with_reducible rfl)
    simp only [List.setIfInBounds_toArray, List.set_cons_zero, List.set_cons_succ]
    refine heldOne 25 rfl (by kernel_rfl) (by rfl) (fun K2 hK => ?_)
    go_simp
    refine (C25 _ (ofHeld4 (by assumption))).mono ?_
    rintro e wx25 ⟨rfl, hbx25⟩
    refine hK.out _ _ ?_ (fun hHeld => ?_)
    · exact keepFour hbx25 (by assumption)
    clear hK K2
    try simp only [List.setIfInBounds_toArray, List.set_cons_zero, List.set_cons_succ]
    refine heldOne 28 rfl (by kernel_rfl) (by rfl) (fun K2 hK => ?_)
    go_simp
    refine (C28 _ (ofHeld4 (by assumption))).mono ?_
    rintro e wx28 ⟨rfl, hbx28⟩
    refine hK.out _ _ ?_ (fun hHeld => ?_)
    · exact keepFour hbx28 (by assumption)
    clear hK K2
    try simp only [List.setIfInBounds_toArray, List.set_cons_zero, List.set_cons_succ]
    refine heldTake (v := ?_) 29 65 rfl rfl (by kernel_rfl) (by kernel_rfl) (by kernel_rfl) (fun _ _ _ h => h) (by rfl) (fun w hSw => ?_) (by assumption) ?_
    rotate_left
    · (try dsimp only at hSw); first | (go_simp; done) | (go_simp; with_reducible rfl)
    simp only [List.setIfInBounds_toArray, List.set_cons_zero, List.set_cons_succ]
    refine heldTake (v := ?_) 30 66 rfl rfl (by kernel_rfl) (by kernel_rfl) (by kernel_rfl) (fun _ _ _ h => h) (by rfl) (fun w hSw => ?_) (by assumption) ?_
    rotate_left
    · (try dsimp only at hSw); first | (go_simp; done) | (go_simp; with_reducible rfl)
    simp only [List.setIfInBounds_toArray, List.set_cons_zero, List.set_cons_succ]
    refine heldTake (v := ?_) 31 67 rfl rfl (by kernel_rfl) (by kernel_rfl) (by kernel_rfl) (fun _ _ _ h => h) (by rfl) (fun w hSw => ?_) (by assumption) ?_
    rotate_left
    · (try dsimp only at hSw); first | (go_simp; done) | (go_simp; with_reducible rfl)
    simp only [List.setIfInBounds_toArray, List.set_cons_zero, List.set_cons_succ]
    refine heldTake (v := ?_) 32 68 rfl rfl (by kernel_rfl) (by kernel_rfl) (by kernel_rfl) (fun _ _ _ h => h) (by rfl) (fun w hSw => ?_) (by assumption) ?_
    rotate_left
    · (try dsimp only at hSw); first | (go_simp; done) | (go_simp; with_reducible rfl)
    simp only [List.setIfInBounds_toArray, List.set_cons_zero, List.set_cons_succ]
    refine heldTake (v := ?_) 33 69 rfl rfl (by kernel_rfl) (by kernel_rfl) (by kernel_rfl) (fun _ _ _ h => h) (by rfl) (fun w hSw => ?_) (by assumption) ?_
    rotate_left
    · (try dsimp only at hSw); first | (go_simp; done) | (go_simp; with_reducible rfl)
    simp only [List.setIfInBounds_toArray, List.set_cons_zero, List.set_cons_succ]
    refine heldTake (v := ?_) 35 71 rfl rfl (by kernel_rfl) (by kernel_rfl) (by kernel_rfl) (fun _ _ _ h => h) (by rfl) (fun w hSw => ?_) (by assumption) ?_
    rotate_left
    · (try dsimp only at hSw); first | (go_simp; done) | (go_simp; with_reducible rfl)
    simp only [List.setIfInBounds_toArray, List.set_cons_zero, List.set_cons_succ]
    refine heldTake (v := ?_) 36 72 rfl rfl (by kernel_rfl) (by kernel_rfl) (by kernel_rfl) (fun _ _ _ h => h) (by rfl) (fun w hSw => ?_) (by assumption) ?_
    rotate_left
    · (try dsimp only at hSw); first | (go_simp; done) | (go_simp; with_reducible rfl)
    simp only [List.setIfInBounds_toArray, List.set_cons_zero, List.set_cons_succ]
    refine heldOne 34 rfl (by kernel_rfl) (by rfl) (fun K2 hK => ?_)
    go_simp
    refine (C34 _ (ofHeld4 (by assumption))).mono ?_
    rintro e wx34 ⟨rfl, hbx34⟩
    refine hK.out _ _ ?_ (fun hHeld => ?_)
    · exact keepFour hbx34 (by assumption)
    clear hK K2
    try simp only [List.setIfInBounds_toArray, List.set_cons_zero, List.set_cons_succ]
    refine heldOne 37 rfl (by kernel_rfl) (by rfl) (fun K2 hK => ?_)
    go_simp
    refine (C37 _ (ofHeld4 (by assumption))).mono ?_
    rintro e wx37 ⟨rfl, hbx37⟩
    refine hK.out _ _ ?_ (fun hHeld => ?_)
    · exact keepFour hbx37 (by assumption)
    clear hK K2
    try simp only [List.setIfInBounds_toArray, List.set_cons_zero, List.set_cons_succ]
    refine heldTake (v := ?_) 38 74 rfl rfl (by kernel_rfl) (by kernel_rfl) (by kernel_rfl) (fun _ _ _ h => h) (by rfl) (fun w hSw => ?_) (by assumption) ?_
    rotate_left
    · (try dsimp only at hSw); first | (go_simp; done) | (go_simp; with_reducible rfl)
    simp only [List.setIfInBounds_toArray, List.set_cons_zero, List.set_cons_succ]
    refine heldTake (v := ?_) 39 75 rfl rfl (by kernel_rfl) (by kernel_rfl) (by kernel_rfl) (fun _ _ _ h => h) (by rfl) (fun w hSw => ?_) (by assumption) ?_
    rotate_left
    · (try dsimp only at hSw); first | (go_simp; done) | (go_simp; with_reducible rfl)
    simp only [List.setIfInBounds_toArray, List.set_cons_zero, List.set_cons_succ]
    refine wpAnyH_done (by kernel_rfl) ?_ _
    go_wp2
    go_meet
    exact ⟨rfl, K.out.later (ofHeld4 (by assumption))⟩
  case rest =>
  obtain ⟨rfl, K⟩ := hcut
  obtain ⟨w5', rfl⟩ : ∃ x, x = wc := ⟨_, rfl⟩
  obtain ⟨ca, hca⟩ : ∃ x, chkD A = x := ⟨_, rfl⟩
  have CAE : Hid (chkD A = ca) := hca
  rw [hca]
  clear hca
  obtain ⟨d0, d1⟩ := And.intro K.out.d0 K.out.d1
  by_cases hc0 : ca = 0
  · subst hc0
    by_cases hx : nextD A dp dk = true ∧ dk ≤ 1073741824
    · have G1 : Hid (addD A dp dk = (A.set dp.toNat dk, 0)) := add_put CAE.out hx
      have GN : Hid (nextD A dp dk = true) := hx.1
      have hk30 : dk ≤ 1073741824 := hx.2
      have LX : Hid ((A.set dp.toNat dk).length = n) := by show _ = _; rw [List.length_set, LA.out]
      obtain ⟨z0, z1⟩ : 0 ≤ dp ∧ dp < (n : Int) := by
        have := hx.1
        unfold nextD at this
        rw [Bool.and_eq_true] at this
        obtain ⟨zz, hzz, e, _⟩ := atD_at this.1
        have := LA.out
        omega
      have hz : dp.toNat < n := by omega
      clear hx
      go_wp2_with fail
      refine (D.add ax n cx dp dk A _ LA.out (by omega) A64.out i0 i1 K.out.XA).mono ?_
      rintro e w6 ⟨av, nv, cv, rfl, hnv, _, _, _, hrv, _, hb⟩
      rw [G1.out] at hnv hrv ⊢
      simp only at hnv hrv ⊢
      rw [LX.out] at hnv
      subst nv
      replace K : Hid (KE w a b l ax ay az g A B L dp dk fp fk w6) := K.out.later hb
      have RV : Hid (RdI .i64 w6 av (A.set dp.toNat dk)) := hrv
      clear hb hrv d0 d1
      obtain ⟨d0, d1⟩ := And.intro K.out.d0 K.out.d1
      go_wp2_with fail
      refine (rNext_any a n cap dp dk A _ LA.out (by omega) A64.out i1 K.out.RA).mono ?_
      rintro e w7 ⟨rfl, hb⟩
      rw [GN.out]
      replace K : Hid (KE w a b l ax ay az g A B L dp dk fp fk w7) := K.out.later hb
      replace RV : Hid (RdI .i64 w7 av (A.set dp.toNat dk)) := RV.out.later hb
      clear hb d0 d1
      obtain ⟨d0, d1⟩ := And.intro K.out.d0 K.out.d1
      go_wp2_with fail
      refine (twinInts_any a n cap A _ LA.out (by omega) NA.out K.out.RA).mono ?_
      rintro e w8 ⟨at', ct, rfl, hct, ot, _, _, hb⟩
      obtain ⟨gt, rfl⟩ : ∃ gt, at' = some ⟨gt, 0, none⟩ := by
        obtain ⟨_, ⟨hv, h0⟩ | ⟨gt, c, cur, hv, _⟩⟩ := ot
        · rw [LA.out] at h0; omega
        · simp only [Value.slice.injEq] at hv
          exact ⟨gt, hv.1⟩
      have ot' : OwnI w8 w7.heap.size (.slice (some ⟨gt, 0, none⟩) n ct) A := ot
      obtain ⟨c0, f0⟩ := ot'.at_ LA.out hz
      obtain ⟨op, bp, hgt⟩ := ot'.put LA.out dp.toNat dk
      have hbs : Below w7.heap.size w7 (w8.setCell ⟨gt, dp.toNat, none⟩ (.int .i64 dk)) := hb.trans bp
      have RW : Hid (RdI .i64 (w8.setCell ⟨gt, dp.toNat, none⟩ (.int .i64 dk)) (some ⟨gt, 0, none⟩) (A.set dp.toNat dk)) := by
        obtain ⟨a5, cap5, e5, _, hr5, _⟩ := op.form
        simp only [Value.slice.injEq] at e5
        rw [← e5.1] at hr5
        exact hr5
      replace RV : Hid (RdI .i64 (w8.setCell ⟨gt, dp.toNat, none⟩ (.int .i64 dk)) av (A.set dp.toNat dk)) := RV.out.later hbs
      have HBS : Hid (Below w7.heap.size w7 (w8.setCell ⟨gt, dp.toNat, none⟩ (.int .i64 dk))) := hbs
      replace d0 := cell_later hb d0
      replace d1 := cell_later hb d1
      generalize (A[dp.toNat]'(by rw [LA.out]; exact hz)) = ox at *
      clear ot ot' op bp hgt hbs hb
      go_wp2_with fail
      refine (keepInts_any av (some ⟨gt, 0, none⟩) n n cv ct (A.set dp.toNat dk) (A.set dp.toNat dk) _ LX.out LX.out (by omega) (by omega) RV.out RW.out).mono ?_
      rintro e wd ⟨rfl, hb⟩
      rw [decide_eq_true rfl]
      replace K : Hid (KE w a b l ax ay az g A B L dp dk fp fk wd) := K.out.later (HBS.out.trans (hb.mono HBS.out.size))
      clear hb RV RW HBS d0 d1 c0 f0 G1 GN
      obtain ⟨cb, hcb'⟩ : ∃ x, chkD B = x := ⟨_, rfl⟩
      have CBE : Hid (chkD B = cb) := hcb'
      clear hcb'
      by_cases hb0 : cb = 0
      · subst hb0
        by_cases hnm0 : n = m
        · subst hnm0
          have EM : Hid (mergeD A B = (maxD A B, 0)) := merge_ok CAE.out CBE.out (by rw [LA.out, LB.out])
          have LMx : Hid ((maxD A B).length = n) := by show _ = _; rw [maxD_len (by rw [LA.out, LB.out])]; exact LA.out
          go_wp2_with fail
          refine (D.merge ax ay n n cx cy A B _ LA.out LB.out (by omega) (by omega) A64.out B64.out K.out.XA K.out.YB).mono ?_
          rintro e wm ⟨am, nm, cm, rfl, hnm', _, _, om, hrm, _, hbm⟩
          rw [EM.out] at hnm' om hrm ⊢
          simp only at hnm' om hrm ⊢
          rw [LMx.out] at hnm'
          subst nm
          have RMx : Hid (RdI .i64 wm am (maxD A B)) := hrm
          have OM : Hid (OwnI wm wd.heap.size (.slice am n cm) (maxD A B)) := om
          have BM : Hid (Below wd.heap.size wd wm) := hbm
          clear hrm om hbm
          go_wp2_with fail
          refine (rVector_any b n dap B _ LB.out (by omega) (K.out.RB.later BM.out)).mono ?_
          rintro e wm2 ⟨rfl, hw2⟩
          subst wm2
          rw [CBE.out]
          go_wp2_with fail
          refine (rMerge_any a b n cap dap A B _ LA.out LB.out (by omega) (K.out.RA.later BM.out) (K.out.RB.later BM.out)).mono ?_
          rintro e wm3 ⟨ar, nr, cr, rfl, hnr, _, _, hrr, _, hb⟩
          rw [LMx.out] at hnr
          subst nr
          replace RMx : Hid (RdI .i64 wm3 am (maxD A B)) := RMx.out.later hb
          have RR : Hid (RdI .i64 wm3 ar (maxD A B)) := hrr
          replace OM : Hid (OwnI wm3 wd.heap.size (.slice am n cm) (maxD A B)) := OM.out.later hb
          replace BM : Hid (Below wd.heap.size wd wm3) := chain BM.out hb
          clear hb hrr
          go_wp2_with fail
          refine (keepInts_any am ar n n cm cr (maxD A B) (maxD A B) _ LMx.out LMx.out (by omega) (by omega) RMx.out RR.out).mono ?_
          rintro e wm4 ⟨rfl, hb⟩
          rw [decide_eq_true rfl]
          replace OM : Hid (OwnI wm4 wd.heap.size (.slice am n cm) (maxD A B)) := OM.out.later hb
          replace BM : Hid (Below wd.heap.size wd wm4) := chain BM.out hb
          clear hb RMx RR
          go_wp2_with fail
          refine (spoilInts_own am n cm wd.heap.size (maxD A B) _ LMx.out (by omega) OM.out).mono ?_
          rintro e ws ⟨rfl, hb⟩
          replace K : Hid (KE w a b l ax ay az g A B L dp dk fp fk ws) := K.out.later (BM.out.trans hb)
          clear hb BM OM EM
          go_wp2_with fail
          refine (D.least az q cz L _ LL.out (by omega) (by omega) HV.out K.out.ZL).mono ?_
          rintro e wl ⟨al, nl, cl, rfl, hnl, hsl, _, _, hrl, _, hb⟩
          replace K : Hid (KE w a b l ax ay az g A B L dp dk fp fk wl) := K.out.later hb
          have RL1 : Hid (RdI .i64 wl al (leastD L).1) := hrl
          have LL1 : Hid ((leastD L).1.length = nl) := hnl
          clear hb hrl hnl
          go_wp2_with fail
          refine (rLeast_any l q eap L _ LL.out (by omega) HV1.out K.out.RL).mono ?_
          rintro e wq ⟨aq, nq, cq, rfl, hnq, hsq, _, _, hrq, _, hb⟩
          replace K : Hid (KE w a b l ax ay az g A B L dp dk fp fk wq) := K.out.later hb
          replace RL1 : Hid (RdI .i64 wq al (leastD L).1) := RL1.out.later hb
          have RQ1 : Hid (RdI .i64 wq aq (leastD L).1) := hrq
          have LQ1 : Hid ((leastD L).1.length = nq) := hnq
          clear hb hrq hnq
          generalize (leastD L).1 = V at *
          generalize (leastD L).2 = ev at *
          go_wp2_with fail
          refine (keepInts_any al aq nl nq cl cq V V _ LL1.out LQ1.out hsl hsq RL1.out RQ1.out).mono ?_
          rintro e w20 ⟨rfl, hb⟩
          rw [decide_eq_true rfl]
          replace K : Hid (KE w a b l ax ay az g A B L dp dk fp fk w20) := K.out.later hb
          clear hb RL1 RQ1
          go_wp2_with fail
          refine (keepInts_any ax a n n cx cap A A _ LA.out LA.out (by omega) (by omega) K.out.XA K.out.RA).mono ?_
          rintro e w21 ⟨rfl, hb⟩
          rw [decide_eq_true rfl]
          replace K : Hid (KE w a b l ax ay az g A B L dp dk fp fk w21) := K.out.later hb
          clear hb
          go_wp2_with fail
          refine (keepInts_any ay b n n cy dap B B _ LB.out LB.out (by omega) (by omega) K.out.YB K.out.RB).mono ?_
          rintro e w22 ⟨rfl, hb⟩
          rw [decide_eq_true rfl]
          replace K : Hid (KE w a b l ax ay az g A B L dp dk fp fk w22) := K.out.later hb
          clear hb
          go_wp2_with fail
          refine (intRows_any az l q q cz eap L L _ LL.out LL.out (by omega) (by omega) HV1.out HV1.out K.out.ZL K.out.RL).mono ?_
          rintro e w23 ⟨rfl, hb⟩
          rw [decide_eq_true rfl]
          replace K : Hid (KE w a b l ax ay az g A B L dp dk fp fk w23) := K.out.later hb
          clear hb
          go_wp2_with fail
          refine (dwakes_any D _).mono ?_
          rintro e w24 ⟨rfl, hb⟩
          go_wp2
          go_ret
          exact ⟨rfl, chain K.out.X hb⟩
        · have hnm : Hid (n ≠ m) := hnm0
          have hnb : ((n : Int) != (m : Int)) = true := by simp; omega
          clear hnm0
          have EM : Hid (mergeD A B = ([], 2)) := merge_len CAE.out CBE.out (by rw [LA.out, LB.out]; exact hnm.out)
          go_wp2_with fail
          refine (D.merge ax ay n m cx cy A B _ LA.out LB.out (by omega) (by omega) A64.out B64.out K.out.XA K.out.YB).mono ?_
          rintro e wm ⟨am, nm, cm, rfl, hnm', _, _, om, hrm, _, hbm⟩
          rw [EM.out] at hnm' om hrm ⊢
          simp only [List.length_nil] at hnm' om hrm ⊢
          subst nm
          have OM : Hid (OwnI wm wd.heap.size (.slice am 0 cm) ([])) := om
          have BM : Hid (Below wd.heap.size wd wm) := hbm
          clear hrm om hbm
          go_wp2_with fail
          refine (rVector_any b m dap B _ LB.out (by omega) (K.out.RB.later BM.out)).mono ?_
          rintro e wm2 ⟨rfl, hw2⟩
          subst wm2
          rw [CBE.out]
          go_wp2_with fail
          refine (spoilInts_own am 0 cm wd.heap.size ([]) _ rfl (by omega) OM.out).mono ?_
          rintro e ws ⟨rfl, hb⟩
          replace K : Hid (KE w a b l ax ay az g A B L dp dk fp fk ws) := K.out.later (BM.out.trans hb)
          clear hb BM OM EM
          go_wp2_with fail
          refine (D.least az q cz L _ LL.out (by omega) (by omega) HV.out K.out.ZL).mono ?_
          rintro e wl ⟨al, nl, cl, rfl, hnl, hsl, _, _, hrl, _, hb⟩
          replace K : Hid (KE w a b l ax ay az g A B L dp dk fp fk wl) := K.out.later hb
          have RL1 : Hid (RdI .i64 wl al (leastD L).1) := hrl
          have LL1 : Hid ((leastD L).1.length = nl) := hnl
          clear hb hrl hnl
          go_wp2_with fail
          refine (rLeast_any l q eap L _ LL.out (by omega) HV1.out K.out.RL).mono ?_
          rintro e wq ⟨aq, nq, cq, rfl, hnq, hsq, _, _, hrq, _, hb⟩
          replace K : Hid (KE w a b l ax ay az g A B L dp dk fp fk wq) := K.out.later hb
          replace RL1 : Hid (RdI .i64 wq al (leastD L).1) := RL1.out.later hb
          have RQ1 : Hid (RdI .i64 wq aq (leastD L).1) := hrq
          have LQ1 : Hid ((leastD L).1.length = nq) := hnq
          clear hb hrq hnq
          generalize (leastD L).1 = V at *
          generalize (leastD L).2 = ev at *
          go_wp2_with fail
          refine (keepInts_any al aq nl nq cl cq V V _ LL1.out LQ1.out hsl hsq RL1.out RQ1.out).mono ?_
          rintro e w20 ⟨rfl, hb⟩
          rw [decide_eq_true rfl]
          replace K : Hid (KE w a b l ax ay az g A B L dp dk fp fk w20) := K.out.later hb
          clear hb RL1 RQ1
          go_wp2_with fail
          refine (keepInts_any ax a n n cx cap A A _ LA.out LA.out (by omega) (by omega) K.out.XA K.out.RA).mono ?_
          rintro e w21 ⟨rfl, hb⟩
          rw [decide_eq_true rfl]
          replace K : Hid (KE w a b l ax ay az g A B L dp dk fp fk w21) := K.out.later hb
          clear hb
          go_wp2_with fail
          refine (keepInts_any ay b m m cy dap B B _ LB.out LB.out (by omega) (by omega) K.out.YB K.out.RB).mono ?_
          rintro e w22 ⟨rfl, hb⟩
          rw [decide_eq_true rfl]
          replace K : Hid (KE w a b l ax ay az g A B L dp dk fp fk w22) := K.out.later hb
          clear hb
          go_wp2_with fail
          refine (intRows_any az l q q cz eap L L _ LL.out LL.out (by omega) (by omega) HV1.out HV1.out K.out.ZL K.out.RL).mono ?_
          rintro e w23 ⟨rfl, hb⟩
          rw [decide_eq_true rfl]
          replace K : Hid (KE w a b l ax ay az g A B L dp dk fp fk w23) := K.out.later hb
          clear hb
          go_wp2_with fail
          refine (dwakes_any D _).mono ?_
          rintro e w24 ⟨rfl, hb⟩
          go_wp2
          go_ret
          exact ⟨rfl, chain K.out.X hb⟩
      · have cb0 : Hid (cb ≠ 0) := hb0
        have hcb1 : (cb != 0) = true := by simp [hb0]
        have hcb2 : (cb == 0) = false := by simp [hb0]
        clear hb0
        have EM : Hid (mergeD A B = ([], cb)) := by have := merge_b CAE.out (by rw [CBE.out]; exact cb0.out); rw [CBE.out] at this; exact this
        go_wp2_with fail
        refine (D.merge ax ay n m cx cy A B _ LA.out LB.out (by omega) (by omega) A64.out B64.out K.out.XA K.out.YB).mono ?_
        rintro e wm ⟨am, nm, cm, rfl, hnm', _, _, om, hrm, _, hbm⟩
        rw [EM.out] at hnm' om hrm ⊢
        simp only [List.length_nil] at hnm' om hrm ⊢
        subst nm
        have OM : Hid (OwnI wm wd.heap.size (.slice am 0 cm) ([])) := om
        have BM : Hid (Below wd.heap.size wd wm) := hbm
        clear hrm om hbm
        go_wp2_with fail
        refine (rVector_any b m dap B _ LB.out (by omega) (K.out.RB.later BM.out)).mono ?_
        rintro e wm2 ⟨rfl, hw2⟩
        subst wm2
        rw [CBE.out]
        go_wp2_with fail
        refine (spoilInts_own am 0 cm wd.heap.size ([]) _ rfl (by omega) OM.out).mono ?_
        rintro e ws ⟨rfl, hb⟩
        replace K : Hid (KE w a b l ax ay az g A B L dp dk fp fk ws) := K.out.later (BM.out.trans hb)
        clear hb BM OM EM
        go_wp2_with fail
        refine (D.least az q cz L _ LL.out (by omega) (by omega) HV.out K.out.ZL).mono ?_
        rintro e wl ⟨al, nl, cl, rfl, hnl, hsl, _, _, hrl, _, hb⟩
        replace K : Hid (KE w a b l ax ay az g A B L dp dk fp fk wl) := K.out.later hb
        have RL1 : Hid (RdI .i64 wl al (leastD L).1) := hrl
        have LL1 : Hid ((leastD L).1.length = nl) := hnl
        clear hb hrl hnl
        go_wp2_with fail
        refine (rLeast_any l q eap L _ LL.out (by omega) HV1.out K.out.RL).mono ?_
        rintro e wq ⟨aq, nq, cq, rfl, hnq, hsq, _, _, hrq, _, hb⟩
        replace K : Hid (KE w a b l ax ay az g A B L dp dk fp fk wq) := K.out.later hb
        replace RL1 : Hid (RdI .i64 wq al (leastD L).1) := RL1.out.later hb
        have RQ1 : Hid (RdI .i64 wq aq (leastD L).1) := hrq
        have LQ1 : Hid ((leastD L).1.length = nq) := hnq
        clear hb hrq hnq
        generalize (leastD L).1 = V at *
        generalize (leastD L).2 = ev at *
        go_wp2_with fail
        refine (keepInts_any al aq nl nq cl cq V V _ LL1.out LQ1.out hsl hsq RL1.out RQ1.out).mono ?_
        rintro e w20 ⟨rfl, hb⟩
        rw [decide_eq_true rfl]
        replace K : Hid (KE w a b l ax ay az g A B L dp dk fp fk w20) := K.out.later hb
        clear hb RL1 RQ1
        go_wp2_with fail
        refine (keepInts_any ax a n n cx cap A A _ LA.out LA.out (by omega) (by omega) K.out.XA K.out.RA).mono ?_
        rintro e w21 ⟨rfl, hb⟩
        rw [decide_eq_true rfl]
        replace K : Hid (KE w a b l ax ay az g A B L dp dk fp fk w21) := K.out.later hb
        clear hb
        go_wp2_with fail
        refine (keepInts_any ay b m m cy dap B B _ LB.out LB.out (by omega) (by omega) K.out.YB K.out.RB).mono ?_
        rintro e w22 ⟨rfl, hb⟩
        rw [decide_eq_true rfl]
        replace K : Hid (KE w a b l ax ay az g A B L dp dk fp fk w22) := K.out.later hb
        clear hb
        go_wp2_with fail
        refine (intRows_any az l q q cz eap L L _ LL.out LL.out (by omega) (by omega) HV1.out HV1.out K.out.ZL K.out.RL).mono ?_
        rintro e w23 ⟨rfl, hb⟩
        rw [decide_eq_true rfl]
        replace K : Hid (KE w a b l ax ay az g A B L dp dk fp fk w23) := K.out.later hb
        clear hb
        go_wp2_with fail
        refine (dwakes_any D _).mono ?_
        rintro e w24 ⟨rfl, hb⟩
        go_wp2
        go_ret
        exact ⟨rfl, chain K.out.X hb⟩
    · have G1 : Hid (addD A dp dk = ([], 1)) := add_arg CAE.out hx
      have HXN : Hid (nextD A dp dk = true → 1073741824 < dk) := fun h => by by_cases h2 : dk ≤ 1073741824; exact absurd ⟨h, h2⟩ hx; omega
      clear hx
      go_wp2_with fail
      refine (D.add ax n cx dp dk A _ LA.out (by omega) A64.out i0 i1 K.out.XA).mono ?_
      rintro e w6 ⟨av, nv, cv, rfl, hnv, _, _, _, _, _, hb⟩
      rw [G1.out] at hnv ⊢
      simp only [List.length_nil] at hnv ⊢
      subst nv
      replace K : Hid (KE w a b l ax ay az g A B L dp dk fp fk w6) := K.out.later hb
      clear hb d0 d1
      obtain ⟨d0, d1⟩ := And.intro K.out.d0 K.out.d1
      go_wp2_with fail
      refine (rNext_any a n cap dp dk A _ LA.out (by omega) A64.out i1 K.out.RA).mono ?_
      rintro e wd ⟨rfl, hb⟩
      replace K : Hid (KE w a b l ax ay az g A B L dp dk fp fk wd) := K.out.later hb
      clear hb d0 d1
      obtain ⟨d0, d1⟩ := And.intro K.out.d0 K.out.d1
      cases hkn : nextD A dp dk with
      | true =>
        have hk31 : 1073741824 < dk := HXN.out hkn
        clear hkn HXN
        obtain ⟨cb, hcb'⟩ : ∃ x, chkD B = x := ⟨_, rfl⟩
        have CBE : Hid (chkD B = cb) := hcb'
        clear hcb'
        by_cases hb0 : cb = 0
        · subst hb0
          by_cases hnm0 : n = m
          · subst hnm0
            have EM : Hid (mergeD A B = (maxD A B, 0)) := merge_ok CAE.out CBE.out (by rw [LA.out, LB.out])
            have LMx : Hid ((maxD A B).length = n) := by show _ = _; rw [maxD_len (by rw [LA.out, LB.out])]; exact LA.out
            go_wp2_with fail
            refine (D.merge ax ay n n cx cy A B _ LA.out LB.out (by omega) (by omega) A64.out B64.out K.out.XA K.out.YB).mono ?_
            rintro e wm ⟨am, nm, cm, rfl, hnm', _, _, om, hrm, _, hbm⟩
            rw [EM.out] at hnm' om hrm ⊢
            simp only at hnm' om hrm ⊢
            rw [LMx.out] at hnm'
            subst nm
            have RMx : Hid (RdI .i64 wm am (maxD A B)) := hrm
            have OM : Hid (OwnI wm wd.heap.size (.slice am n cm) (maxD A B)) := om
            have BM : Hid (Below wd.heap.size wd wm) := hbm
            clear hrm om hbm
            go_wp2_with fail
            refine (rVector_any b n dap B _ LB.out (by omega) (K.out.RB.later BM.out)).mono ?_
            rintro e wm2 ⟨rfl, hw2⟩
            subst wm2
            rw [CBE.out]
            go_wp2_with fail
            refine (rMerge_any a b n cap dap A B _ LA.out LB.out (by omega) (K.out.RA.later BM.out) (K.out.RB.later BM.out)).mono ?_
            rintro e wm3 ⟨ar, nr, cr, rfl, hnr, _, _, hrr, _, hb⟩
            rw [LMx.out] at hnr
            subst nr
            replace RMx : Hid (RdI .i64 wm3 am (maxD A B)) := RMx.out.later hb
            have RR : Hid (RdI .i64 wm3 ar (maxD A B)) := hrr
            replace OM : Hid (OwnI wm3 wd.heap.size (.slice am n cm) (maxD A B)) := OM.out.later hb
            replace BM : Hid (Below wd.heap.size wd wm3) := chain BM.out hb
            clear hb hrr
            go_wp2_with fail
            refine (keepInts_any am ar n n cm cr (maxD A B) (maxD A B) _ LMx.out LMx.out (by omega) (by omega) RMx.out RR.out).mono ?_
            rintro e wm4 ⟨rfl, hb⟩
            rw [decide_eq_true rfl]
            replace OM : Hid (OwnI wm4 wd.heap.size (.slice am n cm) (maxD A B)) := OM.out.later hb
            replace BM : Hid (Below wd.heap.size wd wm4) := chain BM.out hb
            clear hb RMx RR
            go_wp2_with fail
            refine (spoilInts_own am n cm wd.heap.size (maxD A B) _ LMx.out (by omega) OM.out).mono ?_
            rintro e ws ⟨rfl, hb⟩
            replace K : Hid (KE w a b l ax ay az g A B L dp dk fp fk ws) := K.out.later (BM.out.trans hb)
            clear hb BM OM EM
            go_wp2_with fail
            refine (D.least az q cz L _ LL.out (by omega) (by omega) HV.out K.out.ZL).mono ?_
            rintro e wl ⟨al, nl, cl, rfl, hnl, hsl, _, _, hrl, _, hb⟩
            replace K : Hid (KE w a b l ax ay az g A B L dp dk fp fk wl) := K.out.later hb
            have RL1 : Hid (RdI .i64 wl al (leastD L).1) := hrl
            have LL1 : Hid ((leastD L).1.length = nl) := hnl
            clear hb hrl hnl
            go_wp2_with fail
            refine (rLeast_any l q eap L _ LL.out (by omega) HV1.out K.out.RL).mono ?_
            rintro e wq ⟨aq, nq, cq, rfl, hnq, hsq, _, _, hrq, _, hb⟩
            replace K : Hid (KE w a b l ax ay az g A B L dp dk fp fk wq) := K.out.later hb
            replace RL1 : Hid (RdI .i64 wq al (leastD L).1) := RL1.out.later hb
            have RQ1 : Hid (RdI .i64 wq aq (leastD L).1) := hrq
            have LQ1 : Hid ((leastD L).1.length = nq) := hnq
            clear hb hrq hnq
            generalize (leastD L).1 = V at *
            generalize (leastD L).2 = ev at *
            go_wp2_with fail
            refine (keepInts_any al aq nl nq cl cq V V _ LL1.out LQ1.out hsl hsq RL1.out RQ1.out).mono ?_
            rintro e w20 ⟨rfl, hb⟩
            rw [decide_eq_true rfl]
            replace K : Hid (KE w a b l ax ay az g A B L dp dk fp fk w20) := K.out.later hb
            clear hb RL1 RQ1
            go_wp2_with fail
            refine (keepInts_any ax a n n cx cap A A _ LA.out LA.out (by omega) (by omega) K.out.XA K.out.RA).mono ?_
            rintro e w21 ⟨rfl, hb⟩
            rw [decide_eq_true rfl]
            replace K : Hid (KE w a b l ax ay az g A B L dp dk fp fk w21) := K.out.later hb
            clear hb
            go_wp2_with fail
            refine (keepInts_any ay b n n cy dap B B _ LB.out LB.out (by omega) (by omega) K.out.YB K.out.RB).mono ?_
            rintro e w22 ⟨rfl, hb⟩
            rw [decide_eq_true rfl]
            replace K : Hid (KE w a b l ax ay az g A B L dp dk fp fk w22) := K.out.later hb
            clear hb
            go_wp2_with fail
            refine (intRows_any az l q q cz eap L L _ LL.out LL.out (by omega) (by omega) HV1.out HV1.out K.out.ZL K.out.RL).mono ?_
            rintro e w23 ⟨rfl, hb⟩
            rw [decide_eq_true rfl]
            replace K : Hid (KE w a b l ax ay az g A B L dp dk fp fk w23) := K.out.later hb
            clear hb
            go_wp2_with fail
            refine (dwakes_any D _).mono ?_
            rintro e w24 ⟨rfl, hb⟩
            go_wp2
            go_ret
            exact ⟨rfl, chain K.out.X hb⟩
          · have hnm : Hid (n ≠ m) := hnm0
            have hnb : ((n : Int) != (m : Int)) = true := by simp; omega
            clear hnm0
            have EM : Hid (mergeD A B = ([], 2)) := merge_len CAE.out CBE.out (by rw [LA.out, LB.out]; exact hnm.out)
            go_wp2_with fail
            refine (D.merge ax ay n m cx cy A B _ LA.out LB.out (by omega) (by omega) A64.out B64.out K.out.XA K.out.YB).mono ?_
            rintro e wm ⟨am, nm, cm, rfl, hnm', _, _, om, hrm, _, hbm⟩
            rw [EM.out] at hnm' om hrm ⊢
            simp only [List.length_nil] at hnm' om hrm ⊢
            subst nm
            have OM : Hid (OwnI wm wd.heap.size (.slice am 0 cm) ([])) := om
            have BM : Hid (Below wd.heap.size wd wm) := hbm
            clear hrm om hbm
            go_wp2_with fail
            refine (rVector_any b m dap B _ LB.out (by omega) (K.out.RB.later BM.out)).mono ?_
            rintro e wm2 ⟨rfl, hw2⟩
            subst wm2
            rw [CBE.out]
            go_wp2_with fail
            refine (spoilInts_own am 0 cm wd.heap.size ([]) _ rfl (by omega) OM.out).mono ?_
            rintro e ws ⟨rfl, hb⟩
            replace K : Hid (KE w a b l ax ay az g A B L dp dk fp fk ws) := K.out.later (BM.out.trans hb)
            clear hb BM OM EM
            go_wp2_with fail
            refine (D.least az q cz L _ LL.out (by omega) (by omega) HV.out K.out.ZL).mono ?_
            rintro e wl ⟨al, nl, cl, rfl, hnl, hsl, _, _, hrl, _, hb⟩
            replace K : Hid (KE w a b l ax ay az g A B L dp dk fp fk wl) := K.out.later hb
            have RL1 : Hid (RdI .i64 wl al (leastD L).1) := hrl
            have LL1 : Hid ((leastD L).1.length = nl) := hnl
            clear hb hrl hnl
            go_wp2_with fail
            refine (rLeast_any l q eap L _ LL.out (by omega) HV1.out K.out.RL).mono ?_
            rintro e wq ⟨aq, nq, cq, rfl, hnq, hsq, _, _, hrq, _, hb⟩
            replace K : Hid (KE w a b l ax ay az g A B L dp dk fp fk wq) := K.out.later hb
            replace RL1 : Hid (RdI .i64 wq al (leastD L).1) := RL1.out.later hb
            have RQ1 : Hid (RdI .i64 wq aq (leastD L).1) := hrq
            have LQ1 : Hid ((leastD L).1.length = nq) := hnq
            clear hb hrq hnq
            generalize (leastD L).1 = V at *
            generalize (leastD L).2 = ev at *
            go_wp2_with fail
            refine (keepInts_any al aq nl nq cl cq V V _ LL1.out LQ1.out hsl hsq RL1.out RQ1.out).mono ?_
            rintro e w20 ⟨rfl, hb⟩
            rw [decide_eq_true rfl]
            replace K : Hid (KE w a b l ax ay az g A B L dp dk fp fk w20) := K.out.later hb
            clear hb RL1 RQ1
            go_wp2_with fail
            refine (keepInts_any ax a n n cx cap A A _ LA.out LA.out (by omega) (by omega) K.out.XA K.out.RA).mono ?_
            rintro e w21 ⟨rfl, hb⟩
            rw [decide_eq_true rfl]
            replace K : Hid (KE w a b l ax ay az g A B L dp dk fp fk w21) := K.out.later hb
            clear hb
            go_wp2_with fail
            refine (keepInts_any ay b m m cy dap B B _ LB.out LB.out (by omega) (by omega) K.out.YB K.out.RB).mono ?_
            rintro e w22 ⟨rfl, hb⟩
            rw [decide_eq_true rfl]
            replace K : Hid (KE w a b l ax ay az g A B L dp dk fp fk w22) := K.out.later hb
            clear hb
            go_wp2_with fail
            refine (intRows_any az l q q cz eap L L _ LL.out LL.out (by omega) (by omega) HV1.out HV1.out K.out.ZL K.out.RL).mono ?_
            rintro e w23 ⟨rfl, hb⟩
            rw [decide_eq_true rfl]
            replace K : Hid (KE w a b l ax ay az g A B L dp dk fp fk w23) := K.out.later hb
            clear hb
            go_wp2_with fail
            refine (dwakes_any D _).mono ?_
            rintro e w24 ⟨rfl, hb⟩
            go_wp2
            go_ret
            exact ⟨rfl, chain K.out.X hb⟩
        · have cb0 : Hid (cb ≠ 0) := hb0
          have hcb1 : (cb != 0) = true := by simp [hb0]
          have hcb2 : (cb == 0) = false := by simp [hb0]
          clear hb0
          have EM : Hid (mergeD A B = ([], cb)) := by have := merge_b CAE.out (by rw [CBE.out]; exact cb0.out); rw [CBE.out] at this; exact this
          go_wp2_with fail
          refine (D.merge ax ay n m cx cy A B _ LA.out LB.out (by omega) (by omega) A64.out B64.out K.out.XA K.out.YB).mono ?_
          rintro e wm ⟨am, nm, cm, rfl, hnm', _, _, om, hrm, _, hbm⟩
          rw [EM.out] at hnm' om hrm ⊢
          simp only [List.length_nil] at hnm' om hrm ⊢
          subst nm
          have OM : Hid (OwnI wm wd.heap.size (.slice am 0 cm) ([])) := om
          have BM : Hid (Below wd.heap.size wd wm) := hbm
          clear hrm om hbm
          go_wp2_with fail
          refine (rVector_any b m dap B _ LB.out (by omega) (K.out.RB.later BM.out)).mono ?_
          rintro e wm2 ⟨rfl, hw2⟩
          subst wm2
          rw [CBE.out]
          go_wp2_with fail
          refine (spoilInts_own am 0 cm wd.heap.size ([]) _ rfl (by omega) OM.out).mono ?_
          rintro e ws ⟨rfl, hb⟩
          replace K : Hid (KE w a b l ax ay az g A B L dp dk fp fk ws) := K.out.later (BM.out.trans hb)
          clear hb BM OM EM
          go_wp2_with fail
          refine (D.least az q cz L _ LL.out (by omega) (by omega) HV.out K.out.ZL).mono ?_
          rintro e wl ⟨al, nl, cl, rfl, hnl, hsl, _, _, hrl, _, hb⟩
          replace K : Hid (KE w a b l ax ay az g A B L dp dk fp fk wl) := K.out.later hb
          have RL1 : Hid (RdI .i64 wl al (leastD L).1) := hrl
          have LL1 : Hid ((leastD L).1.length = nl) := hnl
          clear hb hrl hnl
          go_wp2_with fail
          refine (rLeast_any l q eap L _ LL.out (by omega) HV1.out K.out.RL).mono ?_
          rintro e wq ⟨aq, nq, cq, rfl, hnq, hsq, _, _, hrq, _, hb⟩
          replace K : Hid (KE w a b l ax ay az g A B L dp dk fp fk wq) := K.out.later hb
          replace RL1 : Hid (RdI .i64 wq al (leastD L).1) := RL1.out.later hb
          have RQ1 : Hid (RdI .i64 wq aq (leastD L).1) := hrq
          have LQ1 : Hid ((leastD L).1.length = nq) := hnq
          clear hb hrq hnq
          generalize (leastD L).1 = V at *
          generalize (leastD L).2 = ev at *
          go_wp2_with fail
          refine (keepInts_any al aq nl nq cl cq V V _ LL1.out LQ1.out hsl hsq RL1.out RQ1.out).mono ?_
          rintro e w20 ⟨rfl, hb⟩
          rw [decide_eq_true rfl]
          replace K : Hid (KE w a b l ax ay az g A B L dp dk fp fk w20) := K.out.later hb
          clear hb RL1 RQ1
          go_wp2_with fail
          refine (keepInts_any ax a n n cx cap A A _ LA.out LA.out (by omega) (by omega) K.out.XA K.out.RA).mono ?_
          rintro e w21 ⟨rfl, hb⟩
          rw [decide_eq_true rfl]
          replace K : Hid (KE w a b l ax ay az g A B L dp dk fp fk w21) := K.out.later hb
          clear hb
          go_wp2_with fail
          refine (keepInts_any ay b m m cy dap B B _ LB.out LB.out (by omega) (by omega) K.out.YB K.out.RB).mono ?_
          rintro e w22 ⟨rfl, hb⟩
          rw [decide_eq_true rfl]
          replace K : Hid (KE w a b l ax ay az g A B L dp dk fp fk w22) := K.out.later hb
          clear hb
          go_wp2_with fail
          refine (intRows_any az l q q cz eap L L _ LL.out LL.out (by omega) (by omega) HV1.out HV1.out K.out.ZL K.out.RL).mono ?_
          rintro e w23 ⟨rfl, hb⟩
          rw [decide_eq_true rfl]
          replace K : Hid (KE w a b l ax ay az g A B L dp dk fp fk w23) := K.out.later hb
          clear hb
          go_wp2_with fail
          refine (dwakes_any D _).mono ?_
          rintro e w24 ⟨rfl, hb⟩
          go_wp2
          go_ret
          exact ⟨rfl, chain K.out.X hb⟩
      | false =>
        clear hkn HXN
        obtain ⟨cb, hcb'⟩ : ∃ x, chkD B = x := ⟨_, rfl⟩
        have CBE : Hid (chkD B = cb) := hcb'
        clear hcb'
        by_cases hb0 : cb = 0
        · subst hb0
          by_cases hnm0 : n = m
          · subst hnm0
            have EM : Hid (mergeD A B = (maxD A B, 0)) := merge_ok CAE.out CBE.out (by rw [LA.out, LB.out])
            have LMx : Hid ((maxD A B).length = n) := by show _ = _; rw [maxD_len (by rw [LA.out, LB.out])]; exact LA.out
            go_wp2_with fail
            refine (D.merge ax ay n n cx cy A B _ LA.out LB.out (by omega) (by omega) A64.out B64.out K.out.XA K.out.YB).mono ?_
            rintro e wm ⟨am, nm, cm, rfl, hnm', _, _, om, hrm, _, hbm⟩
            rw [EM.out] at hnm' om hrm ⊢
            simp only at hnm' om hrm ⊢
            rw [LMx.out] at hnm'
            subst nm
            have RMx : Hid (RdI .i64 wm am (maxD A B)) := hrm
            have OM : Hid (OwnI wm wd.heap.size (.slice am n cm) (maxD A B)) := om
            have BM : Hid (Below wd.heap.size wd wm) := hbm
            clear hrm om hbm
            go_wp2_with fail
            refine (rVector_any b n dap B _ LB.out (by omega) (K.out.RB.later BM.out)).mono ?_
            rintro e wm2 ⟨rfl, hw2⟩
            subst wm2
            rw [CBE.out]
            go_wp2_with fail
            refine (rMerge_any a b n cap dap A B _ LA.out LB.out (by omega) (K.out.RA.later BM.out) (K.out.RB.later BM.out)).mono ?_
            rintro e wm3 ⟨ar, nr, cr, rfl, hnr, _, _, hrr, _, hb⟩
            rw [LMx.out] at hnr
            subst nr
            replace RMx : Hid (RdI .i64 wm3 am (maxD A B)) := RMx.out.later hb
            have RR : Hid (RdI .i64 wm3 ar (maxD A B)) := hrr
            replace OM : Hid (OwnI wm3 wd.heap.size (.slice am n cm) (maxD A B)) := OM.out.later hb
            replace BM : Hid (Below wd.heap.size wd wm3) := chain BM.out hb
            clear hb hrr
            go_wp2_with fail
            refine (keepInts_any am ar n n cm cr (maxD A B) (maxD A B) _ LMx.out LMx.out (by omega) (by omega) RMx.out RR.out).mono ?_
            rintro e wm4 ⟨rfl, hb⟩
            rw [decide_eq_true rfl]
            replace OM : Hid (OwnI wm4 wd.heap.size (.slice am n cm) (maxD A B)) := OM.out.later hb
            replace BM : Hid (Below wd.heap.size wd wm4) := chain BM.out hb
            clear hb RMx RR
            go_wp2_with fail
            refine (spoilInts_own am n cm wd.heap.size (maxD A B) _ LMx.out (by omega) OM.out).mono ?_
            rintro e ws ⟨rfl, hb⟩
            replace K : Hid (KE w a b l ax ay az g A B L dp dk fp fk ws) := K.out.later (BM.out.trans hb)
            clear hb BM OM EM
            go_wp2_with fail
            refine (D.least az q cz L _ LL.out (by omega) (by omega) HV.out K.out.ZL).mono ?_
            rintro e wl ⟨al, nl, cl, rfl, hnl, hsl, _, _, hrl, _, hb⟩
            replace K : Hid (KE w a b l ax ay az g A B L dp dk fp fk wl) := K.out.later hb
            have RL1 : Hid (RdI .i64 wl al (leastD L).1) := hrl
            have LL1 : Hid ((leastD L).1.length = nl) := hnl
            clear hb hrl hnl
            go_wp2_with fail
            refine (rLeast_any l q eap L _ LL.out (by omega) HV1.out K.out.RL).mono ?_
            rintro e wq ⟨aq, nq, cq, rfl, hnq, hsq, _, _, hrq, _, hb⟩
            replace K : Hid (KE w a b l ax ay az g A B L dp dk fp fk wq) := K.out.later hb
            replace RL1 : Hid (RdI .i64 wq al (leastD L).1) := RL1.out.later hb
            have RQ1 : Hid (RdI .i64 wq aq (leastD L).1) := hrq
            have LQ1 : Hid ((leastD L).1.length = nq) := hnq
            clear hb hrq hnq
            generalize (leastD L).1 = V at *
            generalize (leastD L).2 = ev at *
            go_wp2_with fail
            refine (keepInts_any al aq nl nq cl cq V V _ LL1.out LQ1.out hsl hsq RL1.out RQ1.out).mono ?_
            rintro e w20 ⟨rfl, hb⟩
            rw [decide_eq_true rfl]
            replace K : Hid (KE w a b l ax ay az g A B L dp dk fp fk w20) := K.out.later hb
            clear hb RL1 RQ1
            go_wp2_with fail
            refine (keepInts_any ax a n n cx cap A A _ LA.out LA.out (by omega) (by omega) K.out.XA K.out.RA).mono ?_
            rintro e w21 ⟨rfl, hb⟩
            rw [decide_eq_true rfl]
            replace K : Hid (KE w a b l ax ay az g A B L dp dk fp fk w21) := K.out.later hb
            clear hb
            go_wp2_with fail
            refine (keepInts_any ay b n n cy dap B B _ LB.out LB.out (by omega) (by omega) K.out.YB K.out.RB).mono ?_
            rintro e w22 ⟨rfl, hb⟩
            rw [decide_eq_true rfl]
            replace K : Hid (KE w a b l ax ay az g A B L dp dk fp fk w22) := K.out.later hb
            clear hb
            go_wp2_with fail
            refine (intRows_any az l q q cz eap L L _ LL.out LL.out (by omega) (by omega) HV1.out HV1.out K.out.ZL K.out.RL).mono ?_
            rintro e w23 ⟨rfl, hb⟩
            rw [decide_eq_true rfl]
            replace K : Hid (KE w a b l ax ay az g A B L dp dk fp fk w23) := K.out.later hb
            clear hb
            go_wp2_with fail
            refine (dwakes_any D _).mono ?_
            rintro e w24 ⟨rfl, hb⟩
            go_wp2
            go_ret
            exact ⟨rfl, chain K.out.X hb⟩
          · have hnm : Hid (n ≠ m) := hnm0
            have hnb : ((n : Int) != (m : Int)) = true := by simp; omega
            clear hnm0
            have EM : Hid (mergeD A B = ([], 2)) := merge_len CAE.out CBE.out (by rw [LA.out, LB.out]; exact hnm.out)
            go_wp2_with fail
            refine (D.merge ax ay n m cx cy A B _ LA.out LB.out (by omega) (by omega) A64.out B64.out K.out.XA K.out.YB).mono ?_
            rintro e wm ⟨am, nm, cm, rfl, hnm', _, _, om, hrm, _, hbm⟩
            rw [EM.out] at hnm' om hrm ⊢
            simp only [List.length_nil] at hnm' om hrm ⊢
            subst nm
            have OM : Hid (OwnI wm wd.heap.size (.slice am 0 cm) ([])) := om
            have BM : Hid (Below wd.heap.size wd wm) := hbm
            clear hrm om hbm
            go_wp2_with fail
            refine (rVector_any b m dap B _ LB.out (by omega) (K.out.RB.later BM.out)).mono ?_
            rintro e wm2 ⟨rfl, hw2⟩
            subst wm2
            rw [CBE.out]
            go_wp2_with fail
            refine (spoilInts_own am 0 cm wd.heap.size ([]) _ rfl (by omega) OM.out).mono ?_
            rintro e ws ⟨rfl, hb⟩
            replace K : Hid (KE w a b l ax ay az g A B L dp dk fp fk ws) := K.out.later (BM.out.trans hb)
            clear hb BM OM EM
            go_wp2_with fail
            refine (D.least az q cz L _ LL.out (by omega) (by omega) HV.out K.out.ZL).mono ?_
            rintro e wl ⟨al, nl, cl, rfl, hnl, hsl, _, _, hrl, _, hb⟩
            replace K : Hid (KE w a b l ax ay az g A B L dp dk fp fk wl) := K.out.later hb
            have RL1 : Hid (RdI .i64 wl al (leastD L).1) := hrl
            have LL1 : Hid ((leastD L).1.length = nl) := hnl
            clear hb hrl hnl
            go_wp2_with fail
            refine (rLeast_any l q eap L _ LL.out (by omega) HV1.out K.out.RL).mono ?_
            rintro e wq ⟨aq, nq, cq, rfl, hnq, hsq, _, _, hrq, _, hb⟩
            replace K : Hid (KE w a b l ax ay az g A B L dp dk fp fk wq) := K.out.later hb
            replace RL1 : Hid (RdI .i64 wq al (leastD L).1) := RL1.out.later hb
            have RQ1 : Hid (RdI .i64 wq aq (leastD L).1) := hrq
            have LQ1 : Hid ((leastD L).1.length = nq) := hnq
            clear hb hrq hnq
            generalize (leastD L).1 = V at *
            generalize (leastD L).2 = ev at *
            go_wp2_with fail
            refine (keepInts_any al aq nl nq cl cq V V _ LL1.out LQ1.out hsl hsq RL1.out RQ1.out).mono ?_
            rintro e w20 ⟨rfl, hb⟩
            rw [decide_eq_true rfl]
            replace K : Hid (KE w a b l ax ay az g A B L dp dk fp fk w20) := K.out.later hb
            clear hb RL1 RQ1
            go_wp2_with fail
            refine (keepInts_any ax a n n cx cap A A _ LA.out LA.out (by omega) (by omega) K.out.XA K.out.RA).mono ?_
            rintro e w21 ⟨rfl, hb⟩
            rw [decide_eq_true rfl]
            replace K : Hid (KE w a b l ax ay az g A B L dp dk fp fk w21) := K.out.later hb
            clear hb
            go_wp2_with fail
            refine (keepInts_any ay b m m cy dap B B _ LB.out LB.out (by omega) (by omega) K.out.YB K.out.RB).mono ?_
            rintro e w22 ⟨rfl, hb⟩
            rw [decide_eq_true rfl]
            replace K : Hid (KE w a b l ax ay az g A B L dp dk fp fk w22) := K.out.later hb
            clear hb
            go_wp2_with fail
            refine (intRows_any az l q q cz eap L L _ LL.out LL.out (by omega) (by omega) HV1.out HV1.out K.out.ZL K.out.RL).mono ?_
            rintro e w23 ⟨rfl, hb⟩
            rw [decide_eq_true rfl]
            replace K : Hid (KE w a b l ax ay az g A B L dp dk fp fk w23) := K.out.later hb
            clear hb
            go_wp2_with fail
            refine (dwakes_any D _).mono ?_
            rintro e w24 ⟨rfl, hb⟩
            go_wp2
            go_ret
            exact ⟨rfl, chain K.out.X hb⟩
        · have cb0 : Hid (cb ≠ 0) := hb0
          have hcb1 : (cb != 0) = true := by simp [hb0]
          have hcb2 : (cb == 0) = false := by simp [hb0]
          clear hb0
          have EM : Hid (mergeD A B = ([], cb)) := by have := merge_b CAE.out (by rw [CBE.out]; exact cb0.out); rw [CBE.out] at this; exact this
          go_wp2_with fail
          refine (D.merge ax ay n m cx cy A B _ LA.out LB.out (by omega) (by omega) A64.out B64.out K.out.XA K.out.YB).mono ?_
          rintro e wm ⟨am, nm, cm, rfl, hnm', _, _, om, hrm, _, hbm⟩
          rw [EM.out] at hnm' om hrm ⊢
          simp only [List.length_nil] at hnm' om hrm ⊢
          subst nm
          have OM : Hid (OwnI wm wd.heap.size (.slice am 0 cm) ([])) := om
          have BM : Hid (Below wd.heap.size wd wm) := hbm
          clear hrm om hbm
          go_wp2_with fail
          refine (rVector_any b m dap B _ LB.out (by omega) (K.out.RB.later BM.out)).mono ?_
          rintro e wm2 ⟨rfl, hw2⟩
          subst wm2
          rw [CBE.out]
          go_wp2_with fail
          refine (spoilInts_own am 0 cm wd.heap.size ([]) _ rfl (by omega) OM.out).mono ?_
          rintro e ws ⟨rfl, hb⟩
          replace K : Hid (KE w a b l ax ay az g A B L dp dk fp fk ws) := K.out.later (BM.out.trans hb)
          clear hb BM OM EM
          go_wp2_with fail
          refine (D.least az q cz L _ LL.out (by omega) (by omega) HV.out K.out.ZL).mono ?_
          rintro e wl ⟨al, nl, cl, rfl, hnl, hsl, _, _, hrl, _, hb⟩
          replace K : Hid (KE w a b l ax ay az g A B L dp dk fp fk wl) := K.out.later hb
          have RL1 : Hid (RdI .i64 wl al (leastD L).1) := hrl
          have LL1 : Hid ((leastD L).1.length = nl) := hnl
          clear hb hrl hnl
          go_wp2_with fail
          refine (rLeast_any l q eap L _ LL.out (by omega) HV1.out K.out.RL).mono ?_
          rintro e wq ⟨aq, nq, cq, rfl, hnq, hsq, _, _, hrq, _, hb⟩
          replace K : Hid (KE w a b l ax ay az g A B L dp dk fp fk wq) := K.out.later hb
          replace RL1 : Hid (RdI .i64 wq al (leastD L).1) := RL1.out.later hb
          have RQ1 : Hid (RdI .i64 wq aq (leastD L).1) := hrq
          have LQ1 : Hid ((leastD L).1.length = nq) := hnq
          clear hb hrq hnq
          generalize (leastD L).1 = V at *
          generalize (leastD L).2 = ev at *
          go_wp2_with fail
          refine (keepInts_any al aq nl nq cl cq V V _ LL1.out LQ1.out hsl hsq RL1.out RQ1.out).mono ?_
          rintro e w20 ⟨rfl, hb⟩
          rw [decide_eq_true rfl]
          replace K : Hid (KE w a b l ax ay az g A B L dp dk fp fk w20) := K.out.later hb
          clear hb RL1 RQ1
          go_wp2_with fail
          refine (keepInts_any ax a n n cx cap A A _ LA.out LA.out (by omega) (by omega) K.out.XA K.out.RA).mono ?_
          rintro e w21 ⟨rfl, hb⟩
          rw [decide_eq_true rfl]
          replace K : Hid (KE w a b l ax ay az g A B L dp dk fp fk w21) := K.out.later hb
          clear hb
          go_wp2_with fail
          refine (keepInts_any ay b m m cy dap B B _ LB.out LB.out (by omega) (by omega) K.out.YB K.out.RB).mono ?_
          rintro e w22 ⟨rfl, hb⟩
          rw [decide_eq_true rfl]
          replace K : Hid (KE w a b l ax ay az g A B L dp dk fp fk w22) := K.out.later hb
          clear hb
          go_wp2_with fail
          refine (intRows_any az l q q cz eap L L _ LL.out LL.out (by omega) (by omega) HV1.out HV1.out K.out.ZL K.out.RL).mono ?_
          rintro e w23 ⟨rfl, hb⟩
          rw [decide_eq_true rfl]
          replace K : Hid (KE w a b l ax ay az g A B L dp dk fp fk w23) := K.out.later hb
          clear hb
          go_wp2_with fail
          refine (dwakes_any D _).mono ?_
          rintro e w24 ⟨rfl, hb⟩
          go_wp2
          go_ret
          exact ⟨rfl, chain K.out.X hb⟩
  · have ca0 : Hid (ca ≠ 0) := hc0
    have hca1 : (ca != 0) = true := by simp [hc0]
    have hca2 : (ca == 0) = false := by simp [hc0]
    have G1 : Hid (addD A dp dk = ([], ca)) := by have := add_err (A := A) (p := dp) (k := dk) (by rw [CAE.out]; exact hc0); rw [CAE.out] at this; exact this
    clear hc0
    go_wp2_with fail
    refine (D.add ax n cx dp dk A _ LA.out (by omega) A64.out i0 i1 K.out.XA).mono ?_
    rintro e wd ⟨av, nv, cv, rfl, hnv, _, _, _, _, _, hb⟩
    rw [G1.out] at hnv ⊢
    simp only [List.length_nil] at hnv ⊢
    subst nv
    replace K : Hid (KE w a b l ax ay az g A B L dp dk fp fk wd) := K.out.later hb
    clear hb d0 d1 G1
    have EM : Hid (mergeD A B = ([], ca)) := by have := merge_a (B := B) (by rw [CAE.out]; exact ca0.out); rw [CAE.out] at this; exact this
    go_wp2_with fail
    refine (D.merge ax ay n m cx cy A B _ LA.out LB.out (by omega) (by omega) A64.out B64.out K.out.XA K.out.YB).mono ?_
    rintro e wm ⟨am, nm, cm, rfl, hnm', _, _, om, hrm, _, hbm⟩
    rw [EM.out] at hnm' om hrm ⊢
    simp only [List.length_nil] at hnm' om hrm ⊢
    subst nm
    have OM : Hid (OwnI wm wd.heap.size (.slice am 0 cm) ([])) := om
    have BM : Hid (Below wd.heap.size wd wm) := hbm
    clear hrm om hbm
    go_wp2_with fail
    refine (spoilInts_own am 0 cm wd.heap.size ([]) _ rfl (by omega) OM.out).mono ?_
    rintro e ws ⟨rfl, hb⟩
    replace K : Hid (KE w a b l ax ay az g A B L dp dk fp fk ws) := K.out.later (BM.out.trans hb)
    clear hb BM OM EM
    go_wp2_with fail
    refine (D.least az q cz L _ LL.out (by omega) (by omega) HV.out K.out.ZL).mono ?_
    rintro e wl ⟨al, nl, cl, rfl, hnl, hsl, _, _, hrl, _, hb⟩
    replace K : Hid (KE w a b l ax ay az g A B L dp dk fp fk wl) := K.out.later hb
    have RL1 : Hid (RdI .i64 wl al (leastD L).1) := hrl
    have LL1 : Hid ((leastD L).1.length = nl) := hnl
    clear hb hrl hnl
    go_wp2_with fail
    refine (rLeast_any l q eap L _ LL.out (by omega) HV1.out K.out.RL).mono ?_
    rintro e wq ⟨aq, nq, cq, rfl, hnq, hsq, _, _, hrq, _, hb⟩
    replace K : Hid (KE w a b l ax ay az g A B L dp dk fp fk wq) := K.out.later hb
    replace RL1 : Hid (RdI .i64 wq al (leastD L).1) := RL1.out.later hb
    have RQ1 : Hid (RdI .i64 wq aq (leastD L).1) := hrq
    have LQ1 : Hid ((leastD L).1.length = nq) := hnq
    clear hb hrq hnq
    generalize (leastD L).1 = V at *
    generalize (leastD L).2 = ev at *
    go_wp2_with fail
    refine (keepInts_any al aq nl nq cl cq V V _ LL1.out LQ1.out hsl hsq RL1.out RQ1.out).mono ?_
    rintro e w20 ⟨rfl, hb⟩
    rw [decide_eq_true rfl]
    replace K : Hid (KE w a b l ax ay az g A B L dp dk fp fk w20) := K.out.later hb
    clear hb RL1 RQ1
    go_wp2_with fail
    refine (keepInts_any ax a n n cx cap A A _ LA.out LA.out (by omega) (by omega) K.out.XA K.out.RA).mono ?_
    rintro e w21 ⟨rfl, hb⟩
    rw [decide_eq_true rfl]
    replace K : Hid (KE w a b l ax ay az g A B L dp dk fp fk w21) := K.out.later hb
    clear hb
    go_wp2_with fail
    refine (keepInts_any ay b m m cy dap B B _ LB.out LB.out (by omega) (by omega) K.out.YB K.out.RB).mono ?_
    rintro e w22 ⟨rfl, hb⟩
    rw [decide_eq_true rfl]
    replace K : Hid (KE w a b l ax ay az g A B L dp dk fp fk w22) := K.out.later hb
    clear hb
    go_wp2_with fail
    refine (intRows_any az l q q cz eap L L _ LL.out LL.out (by omega) (by omega) HV1.out HV1.out K.out.ZL K.out.RL).mono ?_
    rintro e w23 ⟨rfl, hb⟩
    rw [decide_eq_true rfl]
    replace K : Hid (KE w a b l ax ay az g A B L dp dk fp fk w23) := K.out.later hb
    clear hb
    go_wp2_with fail
    refine (dwakes_any D _).mono ?_
    rintro e w24 ⟨rfl, hb⟩
    go_wp2
    go_ret
    exact ⟨rfl, chain K.out.X hb⟩

end Go.Proofs.Ytmdjmkpalnhkoaa
