/-
  Texts of the proof of OpKinds, one behind the other.
-/
import Derived.Test.YtjpcljmlkgjbgaaRows
import Derived.Test.YtjpcljmlkgjbgaaG36OpKinds
import Derived.Deep.CutRange
namespace Go.Proofs.Ytjpcljmlkgjbgaa
open Go.RowKit Go.Lib
set_option linter.unusedVariables false

theorem k3V {W w w' : World} {b0 b1 b2 o0 o1 o2 : Nat} {x0 x1 x2 : Value} (hb : Below w.heap.size w w')
    (h : w.cell? ⟨b0, o0, none⟩ = some x0 ∧ w.cell? ⟨b1, o1, none⟩ = some x1 ∧ w.cell? ⟨b2, o2, none⟩ = some x2 ∧ Hid (Below W.heap.size W w)) :
    w'.cell? ⟨b0, o0, none⟩ = some x0 ∧ w'.cell? ⟨b1, o1, none⟩ = some x1 ∧ w'.cell? ⟨b2, o2, none⟩ = some x2 ∧ Hid (Below W.heap.size W w') :=
  ⟨cell_later hb h.1, cell_later hb h.2.1, cell_later hb h.2.2.1, chain h.2.2.2.out hb⟩

theorem o3V {W w : World} {P Q R : Prop} (h : P ∧ Q ∧ R ∧ Hid (Below w.heap.size w W)) : Below w.heap.size w W := h.2.2.2.out

set_option maxRecDepth 100000 in
set_option maxHeartbeats 4000000 in
theorem opWithin_updNo (dp dn sp sl sq : Int) (key : ByteArray) (da va oa : Option Addr) (m nv no dc vc oc : Nat) (col : Int) (bf of_ nf fcap z : Nat) (ac : Option Addr) (nc cc : Nat) (w : World) (hk : key.size ≤ 9223372036854775807) (hkey : keyF key = true) (hz : z < nf) (hnf : nf ≤ 65536) (hnc : nc ≤ 65536)
    (hcol : w.cell? ⟨bf, of_ + z, none⟩ = some (.slice ac nc cc)) (hno : placeF nc col = false) :
    Calls Try.prog 51 #[.slice (some ⟨bf, of_, none⟩) nf fcap, .agg #[.int .i64 dp, .int .i64 dn, .slice da m dc, .int .i64 sp, .int .i64 sl, .int .i64 sq, .int .i64 2, .int .i64 (z : Int), .string key, .int .i64 col, .slice va nv vc, .slice oa no oc]] w fun e w' => e = .returned (.bool false) ∧ Below w.heap.size w w' := by
  have HK : Hid (CellsAt (w.alloc (.cells #[.int .i64 dp, .int .i64 dn, .slice da m dc, .int .i64 sp, .int .i64 sl, .int .i64 sq, .int .i64 2, .int .i64 (z : Int), .string key, .int .i64 col, .slice va nv vc, .slice oa no oc] 32)) w.heap.size #[.int .i64 dp, .int .i64 dn, .slice da m dc, .int .i64 sp, .int .i64 sl, .int .i64 sq, .int .i64 2, .int .i64 (z : Int), .string key, .int .i64 col, .slice va nv vc, .slice oa no oc] 32) := CellsAt.made rfl
  have HB0 : Hid (Below w.heap.size w (w.alloc (.cells #[.int .i64 dp, .int .i64 dn, .slice da m dc, .int .i64 sp, .int .i64 sl, .int .i64 sq, .int .i64 2, .int .i64 (z : Int), .string key, .int .i64 col, .slice va nv vc, .slice oa no oc] 32))) := alloc_below _ _
  have HS3 : (w.alloc (.cells #[.int .i64 dp, .int .i64 dn, .slice da m dc, .int .i64 sp, .int .i64 sl, .int .i64 sq, .int .i64 2, .int .i64 (z : Int), .string key, .int .i64 col, .slice va nv vc, .slice oa no oc] 32)).drew.cell? ⟨w.heap.size, 9, none⟩ = some (.int .i64 col) ∧ (w.alloc (.cells #[.int .i64 dp, .int .i64 dn, .slice da m dc, .int .i64 sp, .int .i64 sl, .int .i64 sq, .int .i64 2, .int .i64 (z : Int), .string key, .int .i64 col, .slice va nv vc, .slice oa no oc] 32)).drew.cell? ⟨w.heap.size, 10, none⟩ = some (.slice va nv vc) ∧ (w.alloc (.cells #[.int .i64 dp, .int .i64 dn, .slice da m dc, .int .i64 sp, .int .i64 sl, .int .i64 sq, .int .i64 2, .int .i64 (z : Int), .string key, .int .i64 col, .slice va nv vc, .slice oa no oc] 32)).drew.cell? ⟨w.heap.size, 11, none⟩ = some (.slice oa no oc) ∧ Hid (Below w.heap.size w (w.alloc (.cells #[.int .i64 dp, .int .i64 dn, .slice da m dc, .int .i64 sp, .int .i64 sl, .int .i64 sq, .int .i64 2, .int .i64 (z : Int), .string key, .int .i64 col, .slice va nv vc, .slice oa no oc] 32)).drew) := ⟨HK.out.cell 9, HK.out.cell 10, HK.out.cell 11, HB0.out.drew⟩
  clear HK
  have C1 := fun W => opPlace_any (nf : Int) (z : Int) W
  rw [show placeF nf z = true from by simp [placeF]; omega] at C1
  have C2 := fun W => opKey_any key W hk
  rw [hkey] at C2
  have x0 := cell_later HB0.out hcol
  have z0 : (0 : Int) ≤ (z : Int) := by omega
  have z1 : (z : Int) < (nf : Int) := by omega
  clear hcol
  have C3 := fun W => opPlace_any (nc : Int) col W
  rw [hno] at C3
  go_enter Try.func51, Try.ntmps51
  go_wp2_with fail
  refine (C1 _).mono ?_
  rintro e w1 ⟨rfl, hw⟩
  subst w1
  go_wp2_with fail
  refine (C2 _).mono ?_
  rintro e w1 ⟨rfl, hw⟩
  subst w1
  go_upto_region 8 with fail
  refine wp_region_held_drew (S := (fun w' => w'.cell? ⟨w.heap.size, 9, none⟩ = some (.int .i64 col) ∧ w'.cell? ⟨w.heap.size, 10, none⟩ = some (.slice va nv vc) ∧ w'.cell? ⟨w.heap.size, 11, none⟩ = some (.slice oa no oc) ∧ Hid (Below w.heap.size w w'))) (by kernel_rfl) HS3 (fun hHeld => ?_)
  refine heldTake (v := ?_) 0 45 rfl rfl (by kernel_rfl) (by kernel_rfl) (by kernel_rfl) (fun _ _ _ h => h) (by rfl) (fun w hSw => ?_) (by assumption) ?_
  rotate_left
  · (try dsimp only at hSw); first | (go_simp; done) | (go_simp; with_reducible rfl)
  simp only [List.setIfInBounds_toArray, List.set_cons_zero, List.set_cons_succ]
  refine heldTake (v := ?_) 1 46 rfl rfl (by kernel_rfl) (by kernel_rfl) (by kernel_rfl) (fun _ _ _ h => h) (by rfl) (fun w hSw => ?_) (by assumption) ?_
  rotate_left
  · (try dsimp only at hSw); first | (go_simp; done) | (go_simp; with_reducible rfl)
  simp only [List.setIfInBounds_toArray, List.set_cons_zero, List.set_cons_succ]
  refine heldTake (v := ?_) 2 47 rfl rfl (by kernel_rfl) (by kernel_rfl) (by kernel_rfl) (fun _ _ _ h => h) (by rfl) (fun w hSw => ?_) (by assumption) ?_
  rotate_left
  · (try dsimp only at hSw); first | (go_simp; done) | (go_simp; with_reducible rfl)
  simp only [List.setIfInBounds_toArray, List.set_cons_zero, List.set_cons_succ]
  refine heldTake (v := ?_) 3 48 rfl rfl (by kernel_rfl) (by kernel_rfl) (by kernel_rfl) (fun _ _ _ h => h) (by rfl) (fun w hSw => ?_) (by assumption) ?_
  rotate_left
  · (try dsimp only at hSw); first | (go_simp; done) | (go_simp; with_reducible rfl)
  simp only [List.setIfInBounds_toArray, List.set_cons_zero, List.set_cons_succ]
  refine heldOne 4 rfl (by kernel_rfl) (by rfl) (fun K2 hK => ?_)
  go_simp
  refine (C3 _).mono ?_
  rintro e wz ⟨rfl, hw⟩
  simp only []
  subst hw
  refine hK.out _ _ ?_ (fun hHeld => ?_)
  · assumption
  clear hK K2
  try simp only [List.setIfInBounds_toArray, List.set_cons_zero, List.set_cons_succ]
  refine heldTake (v := ?_) 5 50 rfl rfl (by kernel_rfl) (by kernel_rfl) (by kernel_rfl) (fun _ _ _ h => h) (by rfl) (fun w hSw => ?_) (by assumption) ?_
  rotate_left
  · (try dsimp only at hSw); first | (go_simp; done) | (go_simp; with_reducible rfl)
  simp only [List.setIfInBounds_toArray, List.set_cons_zero, List.set_cons_succ]
  refine heldSkip 6 51 rfl rfl (by kernel_rfl) (by kernel_rfl) (by kernel_rfl) (fun _ _ _ h => h) (by rfl) (by assumption) ?_
  simp only [List.setIfInBounds_toArray, List.set_cons_zero, List.set_cons_succ]
  refine heldSkip 7 52 rfl rfl (by kernel_rfl) (by kernel_rfl) (by kernel_rfl) (fun _ _ _ h => h) (by rfl) (by assumption) ?_
  simp only [List.setIfInBounds_toArray, List.set_cons_zero, List.set_cons_succ]
  refine heldSkip 8 53 rfl rfl (by kernel_rfl) (by kernel_rfl) (by kernel_rfl) (fun _ _ _ h => h) (by rfl) (by assumption) ?_
  simp only [List.setIfInBounds_toArray, List.set_cons_zero, List.set_cons_succ]
  refine heldSkip 9 54 rfl rfl (by kernel_rfl) (by kernel_rfl) (by kernel_rfl) (fun _ _ _ h => h) (by rfl) (by assumption) ?_
  simp only [List.setIfInBounds_toArray, List.set_cons_zero, List.set_cons_succ]
  refine heldSkip 10 55 rfl rfl (by kernel_rfl) (by kernel_rfl) (by kernel_rfl) (fun _ _ _ h => h) (by rfl) (by assumption) ?_
  simp only [List.setIfInBounds_toArray, List.set_cons_zero, List.set_cons_succ]
  refine heldSkip 11 56 rfl rfl (by kernel_rfl) (by kernel_rfl) (by kernel_rfl) (fun _ _ _ h => h) (by rfl) (by assumption) ?_
  simp only [List.setIfInBounds_toArray, List.set_cons_zero, List.set_cons_succ]
  refine heldSkip 12 57 rfl rfl (by kernel_rfl) (by kernel_rfl) (by kernel_rfl) (fun _ _ _ h => h) (by rfl) (by assumption) ?_
  simp only [List.setIfInBounds_toArray, List.set_cons_zero, List.set_cons_succ]
  refine heldSkip 13 58 rfl rfl (by kernel_rfl) (by kernel_rfl) (by kernel_rfl) (fun _ _ _ h => h) (by rfl) (by assumption) ?_
  simp only [List.setIfInBounds_toArray, List.set_cons_zero, List.set_cons_succ]
  refine heldSkip 14 59 rfl rfl (by kernel_rfl) (by kernel_rfl) (by kernel_rfl) (fun _ _ _ h => h) (by rfl) (by assumption) ?_
  simp only [List.setIfInBounds_toArray, List.set_cons_zero, List.set_cons_succ]
  refine heldSkip 15 60 rfl rfl (by kernel_rfl) (by kernel_rfl) (by kernel_rfl) (fun _ _ _ h => h) (by rfl) (by assumption) ?_
  simp only [List.setIfInBounds_toArray, List.set_cons_zero, List.set_cons_succ]
  refine heldTake (v := ?_) 16 61 rfl rfl (by kernel_rfl) (by kernel_rfl) (by kernel_rfl) (fun _ _ _ h => h) (by rfl) (fun w hSw => ?_) (by assumption) ?_
  rotate_left
  · (try dsimp only at hSw); first | (go_simp; done) | (go_simp; with_reducible rfl)
  simp only [List.setIfInBounds_toArray, List.set_cons_zero, List.set_cons_succ]
  refine heldTake (v := ?_) 17 62 rfl rfl (by kernel_rfl) (by kernel_rfl) (by kernel_rfl) (fun _ _ _ h => h) (by rfl) (fun w hSw => ?_) (by assumption) ?_
  rotate_left
  · (try dsimp only at hSw); first | (go_simp; done) | (go_simp; with_reducible rfl)
  simp only [List.setIfInBounds_toArray, List.set_cons_zero, List.set_cons_succ]
  refine heldSkip 18 63 rfl rfl (by kernel_rfl) (by kernel_rfl) (by kernel_rfl) (fun _ _ _ h => h) (by rfl) (by assumption) ?_
  simp only [List.setIfInBounds_toArray, List.set_cons_zero, List.set_cons_succ]
  refine heldSkip 19 64 rfl rfl (by kernel_rfl) (by kernel_rfl) (by kernel_rfl) (fun _ _ _ h => h) (by rfl) (by assumption) ?_
  simp only [List.setIfInBounds_toArray, List.set_cons_zero, List.set_cons_succ]
  refine heldSkip 20 65 rfl rfl (by kernel_rfl) (by kernel_rfl) (by kernel_rfl) (fun _ _ _ h => h) (by rfl) (by assumption) ?_
  simp only [List.setIfInBounds_toArray, List.set_cons_zero, List.set_cons_succ]
  refine heldSkip 21 66 rfl rfl (by kernel_rfl) (by kernel_rfl) (by kernel_rfl) (fun _ _ _ h => h) (by rfl) (by assumption) ?_
  simp only [List.setIfInBounds_toArray, List.set_cons_zero, List.set_cons_succ]
  refine heldTake (v := ?_) 22 67 rfl rfl (by kernel_rfl) (by kernel_rfl) (by kernel_rfl) (fun _ _ _ h => h) (by rfl) (fun w hSw => ?_) (by assumption) ?_
  rotate_left
  · (try dsimp only at hSw); first | (go_simp; done) | (go_simp; with_reducible rfl)
  simp only [List.setIfInBounds_toArray, List.set_cons_zero, List.set_cons_succ]
  refine heldTake (v := ?_) 23 4 rfl rfl (by kernel_rfl) (by kernel_rfl) (by kernel_rfl) (fun _ _ _ h => h) (by rfl) (fun w hSw => ?_) (by assumption) ?_
  rotate_left
  · (try dsimp only at hSw); first | (go_simp; done) | (go_simp; with_reducible rfl)
  simp only [List.setIfInBounds_toArray, List.set_cons_zero, List.set_cons_succ]
  refine wpAnyH_done (by kernel_rfl) ?_ _
  have HB9 : Hid (Below w.heap.size w _) := hHeld.2.2.2
  clear hHeld
  go_wp2
  go_ret
  exact ⟨rfl, HB9.out⟩

set_option maxRecDepth 100000 in
set_option maxHeartbeats 4000000 in
theorem opWithin_upd (dp dn sp sl sq : Int) (key : ByteArray) (da va oa : Option Addr) (m nv no dc vc oc : Nat) (j : Nat) (put : Bool) (bf of_ nf fcap z bc ob nc cc : Nat) (w : World) (hk : key.size ≤ 9223372036854775807) (hkey : keyF key = true) (hz : z < nf) (hnf : nf ≤ 65536) (hnc : nc ≤ 65536) (hj : j < nc) (hcc : nc ≤ cc)
    (hcol : w.cell? ⟨bf, of_ + z, none⟩ = some (.slice (some ⟨bc, ob, none⟩) nc cc))
    (C : ∀ W, Below w.heap.size w W → Calls Try.prog 86 #[.slice va nv vc, .slice (some ⟨bc, ob + j, none⟩) 1 (cc - j)] W fun e w' => e = .returned (.bool put) ∧ Below W.heap.size W w') :
    Calls Try.prog 51 #[.slice (some ⟨bf, of_, none⟩) nf fcap, .agg #[.int .i64 dp, .int .i64 dn, .slice da m dc, .int .i64 sp, .int .i64 sl, .int .i64 sq, .int .i64 2, .int .i64 (z : Int), .string key, .int .i64 (j : Int), .slice va nv vc, .slice oa no oc]] w fun e w' => e = .returned (.bool (put && decide (no = 0))) ∧ Below w.heap.size w w' := by
  have HK : Hid (CellsAt (w.alloc (.cells #[.int .i64 dp, .int .i64 dn, .slice da m dc, .int .i64 sp, .int .i64 sl, .int .i64 sq, .int .i64 2, .int .i64 (z : Int), .string key, .int .i64 (j : Int), .slice va nv vc, .slice oa no oc] 32)) w.heap.size #[.int .i64 dp, .int .i64 dn, .slice da m dc, .int .i64 sp, .int .i64 sl, .int .i64 sq, .int .i64 2, .int .i64 (z : Int), .string key, .int .i64 (j : Int), .slice va nv vc, .slice oa no oc] 32) := CellsAt.made rfl
  have HB0 : Hid (Below w.heap.size w (w.alloc (.cells #[.int .i64 dp, .int .i64 dn, .slice da m dc, .int .i64 sp, .int .i64 sl, .int .i64 sq, .int .i64 2, .int .i64 (z : Int), .string key, .int .i64 (j : Int), .slice va nv vc, .slice oa no oc] 32))) := alloc_below _ _
  have HS3 : (w.alloc (.cells #[.int .i64 dp, .int .i64 dn, .slice da m dc, .int .i64 sp, .int .i64 sl, .int .i64 sq, .int .i64 2, .int .i64 (z : Int), .string key, .int .i64 (j : Int), .slice va nv vc, .slice oa no oc] 32)).drew.cell? ⟨w.heap.size, 9, none⟩ = some (.int .i64 (j : Int)) ∧ (w.alloc (.cells #[.int .i64 dp, .int .i64 dn, .slice da m dc, .int .i64 sp, .int .i64 sl, .int .i64 sq, .int .i64 2, .int .i64 (z : Int), .string key, .int .i64 (j : Int), .slice va nv vc, .slice oa no oc] 32)).drew.cell? ⟨w.heap.size, 10, none⟩ = some (.slice va nv vc) ∧ (w.alloc (.cells #[.int .i64 dp, .int .i64 dn, .slice da m dc, .int .i64 sp, .int .i64 sl, .int .i64 sq, .int .i64 2, .int .i64 (z : Int), .string key, .int .i64 (j : Int), .slice va nv vc, .slice oa no oc] 32)).drew.cell? ⟨w.heap.size, 11, none⟩ = some (.slice oa no oc) ∧ Hid (Below w.heap.size w (w.alloc (.cells #[.int .i64 dp, .int .i64 dn, .slice da m dc, .int .i64 sp, .int .i64 sl, .int .i64 sq, .int .i64 2, .int .i64 (z : Int), .string key, .int .i64 (j : Int), .slice va nv vc, .slice oa no oc] 32)).drew) := ⟨HK.out.cell 9, HK.out.cell 10, HK.out.cell 11, HB0.out.drew⟩
  clear HK
  have C1 := fun W => opPlace_any (nf : Int) (z : Int) W
  rw [show placeF nf z = true from by simp [placeF]; omega] at C1
  have C2 := fun W => opKey_any key W hk
  rw [hkey] at C2
  have x0 := cell_later HB0.out hcol
  have z0 : (0 : Int) ≤ (z : Int) := by omega
  have z1 : (z : Int) < (nf : Int) := by omega
  clear hcol
  have C3 := fun W => opPlace_any (nc : Int) (j : Int) W
  rw [show placeF nc j = true from by simp [placeF]; omega] at C3
  have jw : IntKind.i64.wrap ((j : Int) + 1) = (j : Int) + 1 := by rw [IntKind.wrap_i64]; omega
  have j0 : (0 : Int) ≤ (j : Int) := by omega
  have j1 : (j : Int) ≤ (j : Int) + 1 := by omega
  have j2 : (j : Int) + 1 ≤ (cc : Int) := by omega
  have j3 : (j : Int) + 1 ≤ (nc : Int) := by omega
  have j4 : (0 : Int) ≤ (j : Int) + 1 := by omega
  have j5 : (cc = j) = False := by simp; omega
  go_enter Try.func51, Try.ntmps51
  go_wp2_with fail
  refine (C1 _).mono ?_
  rintro e w1 ⟨rfl, hw⟩
  subst w1
  go_wp2_with fail
  refine (C2 _).mono ?_
  rintro e w1 ⟨rfl, hw⟩
  subst w1
  go_upto_region 8 with fail
  cases put with
  | false =>
    refine wp_region_held_drew (S := (fun w' => w'.cell? ⟨w.heap.size, 9, none⟩ = some (.int .i64 (j : Int)) ∧ w'.cell? ⟨w.heap.size, 10, none⟩ = some (.slice va nv vc) ∧ w'.cell? ⟨w.heap.size, 11, none⟩ = some (.slice oa no oc) ∧ Hid (Below w.heap.size w w'))) (by kernel_rfl) HS3 (fun hHeld => ?_)
    refine heldTake (v := ?_) 0 45 rfl rfl (by kernel_rfl) (by kernel_rfl) (by kernel_rfl) (fun _ _ _ h => h) (by rfl) (fun w hSw => ?_) (by assumption) ?_
    rotate_left
    · (try dsimp only at hSw); first | (go_simp; done) | (go_simp; with_reducible rfl)
    simp only [List.setIfInBounds_toArray, List.set_cons_zero, List.set_cons_succ]
    refine heldTake (v := ?_) 1 46 rfl rfl (by kernel_rfl) (by kernel_rfl) (by kernel_rfl) (fun _ _ _ h => h) (by rfl) (fun w hSw => ?_) (by assumption) ?_
    rotate_left
    · (try dsimp only at hSw); first | (go_simp; done) | (go_simp; with_reducible rfl)
    simp only [List.setIfInBounds_toArray, List.set_cons_zero, List.set_cons_succ]
    refine heldTake (v := ?_) 2 47 rfl rfl (by kernel_rfl) (by kernel_rfl) (by kernel_rfl) (fun _ _ _ h => h) (by rfl) (fun w hSw => ?_) (by assumption) ?_
    rotate_left
    · (try dsimp only at hSw); first | (go_simp; done) | (go_simp; with_reducible rfl)
    simp only [List.setIfInBounds_toArray, List.set_cons_zero, List.set_cons_succ]
    refine heldTake (v := ?_) 3 48 rfl rfl (by kernel_rfl) (by kernel_rfl) (by kernel_rfl) (fun _ _ _ h => h) (by rfl) (fun w hSw => ?_) (by assumption) ?_
    rotate_left
    · (try dsimp only at hSw); first | (go_simp; done) | (go_simp; with_reducible rfl)
    simp only [List.setIfInBounds_toArray, List.set_cons_zero, List.set_cons_succ]
    refine heldOne 4 rfl (by kernel_rfl) (by rfl) (fun K2 hK => ?_)
    go_simp
    refine (C3 _).mono ?_
    rintro e wz ⟨rfl, hw⟩
    simp only []
    subst hw
    refine hK.out _ _ ?_ (fun hHeld => ?_)
    · first | exact k3V hb (by assumption) | assumption
    clear hK K2
    try simp only [List.setIfInBounds_toArray, List.set_cons_zero, List.set_cons_succ]
    refine heldTake (v := ?_) 5 50 rfl rfl (by kernel_rfl) (by kernel_rfl) (by kernel_rfl) (fun _ _ _ h => h) (by rfl) (fun w hSw => ?_) (by assumption) ?_
    rotate_left
    · (try dsimp only at hSw); first | (go_simp; done) | (go_simp; with_reducible rfl)
    simp only [List.setIfInBounds_toArray, List.set_cons_zero, List.set_cons_succ]
    refine heldTake (v := ?_) 6 51 rfl rfl (by kernel_rfl) (by kernel_rfl) (by kernel_rfl) (fun _ _ _ h => h) (by rfl) (fun w hSw => ?_) (by assumption) ?_
    rotate_left
    · (try dsimp only at hSw); first | (go_simp; done) | (go_simp; with_reducible rfl)
    simp only [List.setIfInBounds_toArray, List.set_cons_zero, List.set_cons_succ]
    refine heldTake (v := ?_) 7 52 rfl rfl (by kernel_rfl) (by kernel_rfl) (by kernel_rfl) (fun _ _ _ h => h) (by rfl) (fun w hSw => ?_) (by assumption) ?_
    rotate_left
    · (try dsimp only at hSw); first | (go_simp; done) | (go_simp; with_reducible rfl)
    simp only [List.setIfInBounds_toArray, List.set_cons_zero, List.set_cons_succ]
    refine heldTake (v := ?_) 8 53 rfl rfl (by kernel_rfl) (by kernel_rfl) (by kernel_rfl) (fun _ _ _ h => h) (by rfl) (fun w hSw => ?_) (by assumption) ?_
    rotate_left
    · (try dsimp only at hSw); first | (go_simp; done) | (go_simp; with_reducible rfl)
    simp only [List.setIfInBounds_toArray, List.set_cons_zero, List.set_cons_succ]
    refine heldTake (v := ?_) 9 54 rfl rfl (by kernel_rfl) (by kernel_rfl) (by kernel_rfl) (fun _ _ _ h => h) (by rfl) (fun w hSw => ?_) (by assumption) ?_
    rotate_left
    · (try dsimp only at hSw); first | (go_simp; done) | (go_simp; with_reducible rfl)
    simp only [List.setIfInBounds_toArray, List.set_cons_zero, List.set_cons_succ]
    refine heldTake (v := ?_) 10 55 rfl rfl (by kernel_rfl) (by kernel_rfl) (by kernel_rfl) (fun _ _ _ h => h) (by rfl) (fun w hSw => ?_) (by assumption) ?_
    rotate_left
    · (try dsimp only at hSw); first | (go_simp; done) | (go_simp; with_reducible rfl)
    simp only [List.setIfInBounds_toArray, List.set_cons_zero, List.set_cons_succ]
    refine heldTake (v := ?_) 11 56 rfl rfl (by kernel_rfl) (by kernel_rfl) (by kernel_rfl) (fun _ _ _ h => h) (by rfl) (fun w hSw => ?_) (by assumption) ?_
    rotate_left
    · (try dsimp only at hSw); first | (go_simp; done) | (go_simp; with_reducible rfl)
    simp only [List.setIfInBounds_toArray, List.set_cons_zero, List.set_cons_succ]
    refine heldTake (v := ?_) 12 57 rfl rfl (by kernel_rfl) (by kernel_rfl) (by kernel_rfl) (fun _ _ _ h => h) (by rfl) (fun w hSw => ?_) (by assumption) ?_
    rotate_left
    · (try dsimp only at hSw); first | (go_simp; done) | (go_simp; with_reducible rfl)
    simp only [List.setIfInBounds_toArray, List.set_cons_zero, List.set_cons_succ]
    refine heldTake (v := ?_) 13 58 rfl rfl (by kernel_rfl) (by kernel_rfl) (by kernel_rfl) (fun _ _ _ h => h) (by rfl) (fun w hSw => ?_) (by assumption) ?_
    rotate_left
    · (try dsimp only at hSw); first | (go_simp; done) | (go_simp; with_reducible rfl)
    simp only [List.setIfInBounds_toArray, List.set_cons_zero, List.set_cons_succ]
    refine heldTake (v := ?_) 14 59 rfl rfl (by kernel_rfl) (by kernel_rfl) (by kernel_rfl) (fun _ _ _ h => h) (by rfl) (fun w hSw => ?_) (by assumption) ?_
    rotate_left
    · (try dsimp only at hSw); first | (go_simp; done) | (go_simp; with_reducible rfl)
    simp only [List.setIfInBounds_toArray, List.set_cons_zero, List.set_cons_succ]
    refine heldOne 15 rfl (by kernel_rfl) (by rfl) (fun K2 hK => ?_)
    go_simp
    refine (C _ (o3V (by assumption))).mono ?_
    rintro e wz ⟨rfl, hb⟩
    simp only []
    refine hK.out _ _ ?_ (fun hHeld => ?_)
    · first | exact k3V hb (by assumption) | assumption
    clear hK K2
    try simp only [List.setIfInBounds_toArray, List.set_cons_zero, List.set_cons_succ]
    refine heldTake (v := ?_) 16 61 rfl rfl (by kernel_rfl) (by kernel_rfl) (by kernel_rfl) (fun _ _ _ h => h) (by rfl) (fun w hSw => ?_) (by assumption) ?_
    rotate_left
    · (try dsimp only at hSw); first | (go_simp; done) | (go_simp; with_reducible rfl)
    simp only [List.setIfInBounds_toArray, List.set_cons_zero, List.set_cons_succ]
    refine heldTake (v := ?_) 17 62 rfl rfl (by kernel_rfl) (by kernel_rfl) (by kernel_rfl) (fun _ _ _ h => h) (by rfl) (fun w hSw => ?_) (by assumption) ?_
    rotate_left
    · (try dsimp only at hSw); first | (go_simp; done) | (go_simp; with_reducible rfl)
    simp only [List.setIfInBounds_toArray, List.set_cons_zero, List.set_cons_succ]
    refine heldSkip 18 63 rfl rfl (by kernel_rfl) (by kernel_rfl) (by kernel_rfl) (fun _ _ _ h => h) (by rfl) (by assumption) ?_
    simp only [List.setIfInBounds_toArray, List.set_cons_zero, List.set_cons_succ]
    refine heldSkip 19 64 rfl rfl (by kernel_rfl) (by kernel_rfl) (by kernel_rfl) (fun _ _ _ h => h) (by rfl) (by assumption) ?_
    simp only [List.setIfInBounds_toArray, List.set_cons_zero, List.set_cons_succ]
    refine heldSkip 20 65 rfl rfl (by kernel_rfl) (by kernel_rfl) (by kernel_rfl) (fun _ _ _ h => h) (by rfl) (by assumption) ?_
    simp only [List.setIfInBounds_toArray, List.set_cons_zero, List.set_cons_succ]
    refine heldSkip 21 66 rfl rfl (by kernel_rfl) (by kernel_rfl) (by kernel_rfl) (fun _ _ _ h => h) (by rfl) (by assumption) ?_
    simp only [List.setIfInBounds_toArray, List.set_cons_zero, List.set_cons_succ]
    refine heldTake (v := ?_) 22 67 rfl rfl (by kernel_rfl) (by kernel_rfl) (by kernel_rfl) (fun _ _ _ h => h) (by rfl) (fun w hSw => ?_) (by assumption) ?_
    rotate_left
    · (try dsimp only at hSw); first | (go_simp; done) | (go_simp; with_reducible rfl)
    simp only [List.setIfInBounds_toArray, List.set_cons_zero, List.set_cons_succ]
    refine heldTake (v := ?_) 23 4 rfl rfl (by kernel_rfl) (by kernel_rfl) (by kernel_rfl) (fun _ _ _ h => h) (by rfl) (fun w hSw => ?_) (by assumption) ?_
    rotate_left
    · (try dsimp only at hSw); first | (go_simp; done) | (go_simp; with_reducible rfl)
    simp only [List.setIfInBounds_toArray, List.set_cons_zero, List.set_cons_succ]
    refine wpAnyH_done (by kernel_rfl) ?_ _
    have HB9 : Hid (Below w.heap.size w _) := hHeld.2.2.2
    clear hHeld
    go_wp2
    go_ret
    exact ⟨rfl, HB9.out⟩
  | true =>
    by_cases h2 : no = 0
    · subst h2
      refine wp_region_held_drew (S := (fun w' => w'.cell? ⟨w.heap.size, 9, none⟩ = some (.int .i64 (j : Int)) ∧ w'.cell? ⟨w.heap.size, 10, none⟩ = some (.slice va nv vc) ∧ w'.cell? ⟨w.heap.size, 11, none⟩ = some (.slice oa 0 oc) ∧ Hid (Below w.heap.size w w'))) (by kernel_rfl) HS3 (fun hHeld => ?_)
      refine heldTake (v := ?_) 0 45 rfl rfl (by kernel_rfl) (by kernel_rfl) (by kernel_rfl) (fun _ _ _ h => h) (by rfl) (fun w hSw => ?_) (by assumption) ?_
      rotate_left
      · (try dsimp only at hSw); first | (go_simp; done) | (go_simp; with_reducible rfl)
      simp only [List.setIfInBounds_toArray, List.set_cons_zero, List.set_cons_succ]
      refine heldTake (v := ?_) 1 46 rfl rfl (by kernel_rfl) (by kernel_rfl) (by kernel_rfl) (fun _ _ _ h => h) (by rfl) (fun w hSw => ?_) (by assumption) ?_
      rotate_left
      · (try dsimp only at hSw); first | (go_simp; done) | (go_simp; with_reducible rfl)
      simp only [List.setIfInBounds_toArray, List.set_cons_zero, List.set_cons_succ]
      refine heldTake (v := ?_) 2 47 rfl rfl (by kernel_rfl) (by kernel_rfl) (by kernel_rfl) (fun _ _ _ h => h) (by rfl) (fun w hSw => ?_) (by assumption) ?_
      rotate_left
      · (try dsimp only at hSw); first | (go_simp; done) | (go_simp; with_reducible rfl)
      simp only [List.setIfInBounds_toArray, List.set_cons_zero, List.set_cons_succ]
      refine heldTake (v := ?_) 3 48 rfl rfl (by kernel_rfl) (by kernel_rfl) (by kernel_rfl) (fun _ _ _ h => h) (by rfl) (fun w hSw => ?_) (by assumption) ?_
      rotate_left
      · (try dsimp only at hSw); first | (go_simp; done) | (go_simp; with_reducible rfl)
      simp only [List.setIfInBounds_toArray, List.set_cons_zero, List.set_cons_succ]
      refine heldOne 4 rfl (by kernel_rfl) (by rfl) (fun K2 hK => ?_)
      go_simp
      refine (C3 _).mono ?_
      rintro e wz ⟨rfl, hw⟩
      simp only []
      subst hw
      refine hK.out _ _ ?_ (fun hHeld => ?_)
      · first | exact k3V hb (by assumption) | assumption
      clear hK K2
      try simp only [List.setIfInBounds_toArray, List.set_cons_zero, List.set_cons_succ]
      refine heldTake (v := ?_) 5 50 rfl rfl (by kernel_rfl) (by kernel_rfl) (by kernel_rfl) (fun _ _ _ h => h) (by rfl) (fun w hSw => ?_) (by assumption) ?_
      rotate_left
      · (try dsimp only at hSw); first | (go_simp; done) | (go_simp; with_reducible rfl)
      simp only [List.setIfInBounds_toArray, List.set_cons_zero, List.set_cons_succ]
      refine heldTake (v := ?_) 6 51 rfl rfl (by kernel_rfl) (by kernel_rfl) (by kernel_rfl) (fun _ _ _ h => h) (by rfl) (fun w hSw => ?_) (by assumption) ?_
      rotate_left
      · (try dsimp only at hSw); first | (go_simp; done) | (go_simp; with_reducible rfl)
      simp only [List.setIfInBounds_toArray, List.set_cons_zero, List.set_cons_succ]
      refine heldTake (v := ?_) 7 52 rfl rfl (by kernel_rfl) (by kernel_rfl) (by kernel_rfl) (fun _ _ _ h => h) (by rfl) (fun w hSw => ?_) (by assumption) ?_
      rotate_left
      · (try dsimp only at hSw); first | (go_simp; done) | (go_simp; with_reducible rfl)
      simp only [List.setIfInBounds_toArray, List.set_cons_zero, List.set_cons_succ]
      refine heldTake (v := ?_) 8 53 rfl rfl (by kernel_rfl) (by kernel_rfl) (by kernel_rfl) (fun _ _ _ h => h) (by rfl) (fun w hSw => ?_) (by assumption) ?_
      rotate_left
      · (try dsimp only at hSw); first | (go_simp; done) | (go_simp; with_reducible rfl)
      simp only [List.setIfInBounds_toArray, List.set_cons_zero, List.set_cons_succ]
      refine heldTake (v := ?_) 9 54 rfl rfl (by kernel_rfl) (by kernel_rfl) (by kernel_rfl) (fun _ _ _ h => h) (by rfl) (fun w hSw => ?_) (by assumption) ?_
      rotate_left
      · (try dsimp only at hSw); first | (go_simp; done) | (go_simp; with_reducible rfl)
      simp only [List.setIfInBounds_toArray, List.set_cons_zero, List.set_cons_succ]
      refine heldTake (v := ?_) 10 55 rfl rfl (by kernel_rfl) (by kernel_rfl) (by kernel_rfl) (fun _ _ _ h => h) (by rfl) (fun w hSw => ?_) (by assumption) ?_
      rotate_left
      · (try dsimp only at hSw); first | (go_simp; done) | (go_simp; with_reducible rfl)
      simp only [List.setIfInBounds_toArray, List.set_cons_zero, List.set_cons_succ]
      refine heldTake (v := ?_) 11 56 rfl rfl (by kernel_rfl) (by kernel_rfl) (by kernel_rfl) (fun _ _ _ h => h) (by rfl) (fun w hSw => ?_) (by assumption) ?_
      rotate_left
      · (try dsimp only at hSw); first | (go_simp; done) | (go_simp; with_reducible rfl)
      simp only [List.setIfInBounds_toArray, List.set_cons_zero, List.set_cons_succ]
      refine heldTake (v := ?_) 12 57 rfl rfl (by kernel_rfl) (by kernel_rfl) (by kernel_rfl) (fun _ _ _ h => h) (by rfl) (fun w hSw => ?_) (by assumption) ?_
      rotate_left
      · (try dsimp only at hSw); first | (go_simp; done) | (go_simp; with_reducible rfl)
      simp only [List.setIfInBounds_toArray, List.set_cons_zero, List.set_cons_succ]
      refine heldTake (v := ?_) 13 58 rfl rfl (by kernel_rfl) (by kernel_rfl) (by kernel_rfl) (fun _ _ _ h => h) (by rfl) (fun w hSw => ?_) (by assumption) ?_
      rotate_left
      · (try dsimp only at hSw); first | (go_simp; done) | (go_simp; with_reducible rfl)
      simp only [List.setIfInBounds_toArray, List.set_cons_zero, List.set_cons_succ]
      refine heldTake (v := ?_) 14 59 rfl rfl (by kernel_rfl) (by kernel_rfl) (by kernel_rfl) (fun _ _ _ h => h) (by rfl) (fun w hSw => ?_) (by assumption) ?_
      rotate_left
      · (try dsimp only at hSw); first | (go_simp; done) | (go_simp; with_reducible rfl)
      simp only [List.setIfInBounds_toArray, List.set_cons_zero, List.set_cons_succ]
      refine heldOne 15 rfl (by kernel_rfl) (by rfl) (fun K2 hK => ?_)
      go_simp
      refine (C _ (o3V (by assumption))).mono ?_
      rintro e wz ⟨rfl, hb⟩
      simp only []
      refine hK.out _ _ ?_ (fun hHeld => ?_)
      · first | exact k3V hb (by assumption) | assumption
      clear hK K2
      try simp only [List.setIfInBounds_toArray, List.set_cons_zero, List.set_cons_succ]
      refine heldTake (v := ?_) 16 61 rfl rfl (by kernel_rfl) (by kernel_rfl) (by kernel_rfl) (fun _ _ _ h => h) (by rfl) (fun w hSw => ?_) (by assumption) ?_
      rotate_left
      · (try dsimp only at hSw); first | (go_simp; done) | (go_simp; with_reducible rfl)
      simp only [List.setIfInBounds_toArray, List.set_cons_zero, List.set_cons_succ]
      refine heldTake (v := ?_) 17 62 rfl rfl (by kernel_rfl) (by kernel_rfl) (by kernel_rfl) (fun _ _ _ h => h) (by rfl) (fun w hSw => ?_) (by assumption) ?_
      rotate_left
      · (try dsimp only at hSw); first | (go_simp; done) | (go_simp; with_reducible rfl)
      simp only [List.setIfInBounds_toArray, List.set_cons_zero, List.set_cons_succ]
      refine heldTake (v := ?_) 18 63 rfl rfl (by kernel_rfl) (by kernel_rfl) (by kernel_rfl) (fun _ _ _ h => h) (by rfl) (fun w hSw => ?_) (by assumption) ?_
      rotate_left
      · (try dsimp only at hSw); first | (go_simp; done) | (go_simp; with_reducible rfl)
      simp only [List.setIfInBounds_toArray, List.set_cons_zero, List.set_cons_succ]
      refine heldTake (v := ?_) 19 64 rfl rfl (by kernel_rfl) (by kernel_rfl) (by kernel_rfl) (fun _ _ _ h => h) (by rfl) (fun w hSw => ?_) (by assumption) ?_
      rotate_left
      · (try dsimp only at hSw); first | (go_simp; done) | (go_simp; with_reducible rfl)
      simp only [List.setIfInBounds_toArray, List.set_cons_zero, List.set_cons_succ]
      refine heldTake (v := ?_) 20 65 rfl rfl (by kernel_rfl) (by kernel_rfl) (by kernel_rfl) (fun _ _ _ h => h) (by rfl) (fun w hSw => ?_) (by assumption) ?_
      rotate_left
      · (try dsimp only at hSw); first | (go_simp; done) | (go_simp; with_reducible rfl)
      simp only [List.setIfInBounds_toArray, List.set_cons_zero, List.set_cons_succ]
      refine heldTake (v := ?_) 21 66 rfl rfl (by kernel_rfl) (by kernel_rfl) (by kernel_rfl) (fun _ _ _ h => h) (by rfl) (fun w hSw => ?_) (by assumption) ?_
      rotate_left
      · (try dsimp only at hSw); first | (go_simp; done) | (go_simp; with_reducible rfl)
      simp only [List.setIfInBounds_toArray, List.set_cons_zero, List.set_cons_succ]
      refine heldTake (v := ?_) 22 67 rfl rfl (by kernel_rfl) (by kernel_rfl) (by kernel_rfl) (fun _ _ _ h => h) (by rfl) (fun w hSw => ?_) (by assumption) ?_
      rotate_left
      · (try dsimp only at hSw); first | (go_simp; done) | (go_simp; with_reducible rfl)
      simp only [List.setIfInBounds_toArray, List.set_cons_zero, List.set_cons_succ]
      refine heldTake (v := ?_) 23 4 rfl rfl (by kernel_rfl) (by kernel_rfl) (by kernel_rfl) (fun _ _ _ h => h) (by rfl) (fun w hSw => ?_) (by assumption) ?_
      rotate_left
      · (try dsimp only at hSw); first | (go_simp; done) | (go_simp; with_reducible rfl)
      simp only [List.setIfInBounds_toArray, List.set_cons_zero, List.set_cons_succ]
      refine wpAnyH_done (by kernel_rfl) ?_ _
      have HB9 : Hid (Below w.heap.size w _) := hHeld.2.2.2
      clear hHeld
      go_wp2
      go_ret
      exact ⟨by first | rfl | simp, HB9.out⟩
    · have q2 : ((no : Int) == 0) = false := by simp; omega
      refine wp_region_held_drew (S := (fun w' => w'.cell? ⟨w.heap.size, 9, none⟩ = some (.int .i64 (j : Int)) ∧ w'.cell? ⟨w.heap.size, 10, none⟩ = some (.slice va nv vc) ∧ w'.cell? ⟨w.heap.size, 11, none⟩ = some (.slice oa no oc) ∧ Hid (Below w.heap.size w w'))) (by kernel_rfl) HS3 (fun hHeld => ?_)
      refine heldTake (v := ?_) 0 45 rfl rfl (by kernel_rfl) (by kernel_rfl) (by kernel_rfl) (fun _ _ _ h => h) (by rfl) (fun w hSw => ?_) (by assumption) ?_
      rotate_left
      · (try dsimp only at hSw); first | (go_simp; done) | (go_simp; with_reducible rfl)
      simp only [List.setIfInBounds_toArray, List.set_cons_zero, List.set_cons_succ]
      refine heldTake (v := ?_) 1 46 rfl rfl (by kernel_rfl) (by kernel_rfl) (by kernel_rfl) (fun _ _ _ h => h) (by rfl) (fun w hSw => ?_) (by assumption) ?_
      rotate_left
      · (try dsimp only at hSw); first | (go_simp; done) | (go_simp; with_reducible rfl)
      simp only [List.setIfInBounds_toArray, List.set_cons_zero, List.set_cons_succ]
      refine heldTake (v := ?_) 2 47 rfl rfl (by kernel_rfl) (by kernel_rfl) (by kernel_rfl) (fun _ _ _ h => h) (by rfl) (fun w hSw => ?_) (by assumption) ?_
      rotate_left
      · (try dsimp only at hSw); first | (go_simp; done) | (go_simp; with_reducible rfl)
      simp only [List.setIfInBounds_toArray, List.set_cons_zero, List.set_cons_succ]
      refine heldTake (v := ?_) 3 48 rfl rfl (by kernel_rfl) (by kernel_rfl) (by kernel_rfl) (fun _ _ _ h => h) (by rfl) (fun w hSw => ?_) (by assumption) ?_
      rotate_left
      · (try dsimp only at hSw); first | (go_simp; done) | (go_simp; with_reducible rfl)
      simp only [List.setIfInBounds_toArray, List.set_cons_zero, List.set_cons_succ]
      refine heldOne 4 rfl (by kernel_rfl) (by rfl) (fun K2 hK => ?_)
      go_simp
      refine (C3 _).mono ?_
      rintro e wz ⟨rfl, hw⟩
      simp only []
      subst hw
      refine hK.out _ _ ?_ (fun hHeld => ?_)
      · first | exact k3V hb (by assumption) | assumption
      clear hK K2
      try simp only [List.setIfInBounds_toArray, List.set_cons_zero, List.set_cons_succ]
      refine heldTake (v := ?_) 5 50 rfl rfl (by kernel_rfl) (by kernel_rfl) (by kernel_rfl) (fun _ _ _ h => h) (by rfl) (fun w hSw => ?_) (by assumption) ?_
      rotate_left
      · (try dsimp only at hSw); first | (go_simp; done) | (go_simp; with_reducible rfl)
      simp only [List.setIfInBounds_toArray, List.set_cons_zero, List.set_cons_succ]
      refine heldTake (v := ?_) 6 51 rfl rfl (by kernel_rfl) (by kernel_rfl) (by kernel_rfl) (fun _ _ _ h => h) (by rfl) (fun w hSw => ?_) (by assumption) ?_
      rotate_left
      · (try dsimp only at hSw); first | (go_simp; done) | (go_simp; with_reducible rfl)
      simp only [List.setIfInBounds_toArray, List.set_cons_zero, List.set_cons_succ]
      refine heldTake (v := ?_) 7 52 rfl rfl (by kernel_rfl) (by kernel_rfl) (by kernel_rfl) (fun _ _ _ h => h) (by rfl) (fun w hSw => ?_) (by assumption) ?_
      rotate_left
      · (try dsimp only at hSw); first | (go_simp; done) | (go_simp; with_reducible rfl)
      simp only [List.setIfInBounds_toArray, List.set_cons_zero, List.set_cons_succ]
      refine heldTake (v := ?_) 8 53 rfl rfl (by kernel_rfl) (by kernel_rfl) (by kernel_rfl) (fun _ _ _ h => h) (by rfl) (fun w hSw => ?_) (by assumption) ?_
      rotate_left
      · (try dsimp only at hSw); first | (go_simp; done) | (go_simp; with_reducible rfl)
      simp only [List.setIfInBounds_toArray, List.set_cons_zero, List.set_cons_succ]
      refine heldTake (v := ?_) 9 54 rfl rfl (by kernel_rfl) (by kernel_rfl) (by kernel_rfl) (fun _ _ _ h => h) (by rfl) (fun w hSw => ?_) (by assumption) ?_
      rotate_left
      · (try dsimp only at hSw); first | (go_simp; done) | (go_simp; with_reducible rfl)
      simp only [List.setIfInBounds_toArray, List.set_cons_zero, List.set_cons_succ]
      refine heldTake (v := ?_) 10 55 rfl rfl (by kernel_rfl) (by kernel_rfl) (by kernel_rfl) (fun _ _ _ h => h) (by rfl) (fun w hSw => ?_) (by assumption) ?_
      rotate_left
      · (try dsimp only at hSw); first | (go_simp; done) | (go_simp; with_reducible rfl)
      simp only [List.setIfInBounds_toArray, List.set_cons_zero, List.set_cons_succ]
      refine heldTake (v := ?_) 11 56 rfl rfl (by kernel_rfl) (by kernel_rfl) (by kernel_rfl) (fun _ _ _ h => h) (by rfl) (fun w hSw => ?_) (by assumption) ?_
      rotate_left
      · (try dsimp only at hSw); first | (go_simp; done) | (go_simp; with_reducible rfl)
      simp only [List.setIfInBounds_toArray, List.set_cons_zero, List.set_cons_succ]
      refine heldTake (v := ?_) 12 57 rfl rfl (by kernel_rfl) (by kernel_rfl) (by kernel_rfl) (fun _ _ _ h => h) (by rfl) (fun w hSw => ?_) (by assumption) ?_
      rotate_left
      · (try dsimp only at hSw); first | (go_simp; done) | (go_simp; with_reducible rfl)
      simp only [List.setIfInBounds_toArray, List.set_cons_zero, List.set_cons_succ]
      refine heldTake (v := ?_) 13 58 rfl rfl (by kernel_rfl) (by kernel_rfl) (by kernel_rfl) (fun _ _ _ h => h) (by rfl) (fun w hSw => ?_) (by assumption) ?_
      rotate_left
      · (try dsimp only at hSw); first | (go_simp; done) | (go_simp; with_reducible rfl)
      simp only [List.setIfInBounds_toArray, List.set_cons_zero, List.set_cons_succ]
      refine heldTake (v := ?_) 14 59 rfl rfl (by kernel_rfl) (by kernel_rfl) (by kernel_rfl) (fun _ _ _ h => h) (by rfl) (fun w hSw => ?_) (by assumption) ?_
      rotate_left
      · (try dsimp only at hSw); first | (go_simp; done) | (go_simp; with_reducible rfl)
      simp only [List.setIfInBounds_toArray, List.set_cons_zero, List.set_cons_succ]
      refine heldOne 15 rfl (by kernel_rfl) (by rfl) (fun K2 hK => ?_)
      go_simp
      refine (C _ (o3V (by assumption))).mono ?_
      rintro e wz ⟨rfl, hb⟩
      simp only []
      refine hK.out _ _ ?_ (fun hHeld => ?_)
      · first | exact k3V hb (by assumption) | assumption
      clear hK K2
      try simp only [List.setIfInBounds_toArray, List.set_cons_zero, List.set_cons_succ]
      refine heldTake (v := ?_) 16 61 rfl rfl (by kernel_rfl) (by kernel_rfl) (by kernel_rfl) (fun _ _ _ h => h) (by rfl) (fun w hSw => ?_) (by assumption) ?_
      rotate_left
      · (try dsimp only at hSw); first | (go_simp; done) | (go_simp; with_reducible rfl)
      simp only [List.setIfInBounds_toArray, List.set_cons_zero, List.set_cons_succ]
      refine heldTake (v := ?_) 17 62 rfl rfl (by kernel_rfl) (by kernel_rfl) (by kernel_rfl) (fun _ _ _ h => h) (by rfl) (fun w hSw => ?_) (by assumption) ?_
      rotate_left
      · (try dsimp only at hSw); first | (go_simp; done) | (go_simp; with_reducible rfl)
      simp only [List.setIfInBounds_toArray, List.set_cons_zero, List.set_cons_succ]
      refine heldTake (v := ?_) 18 63 rfl rfl (by kernel_rfl) (by kernel_rfl) (by kernel_rfl) (fun _ _ _ h => h) (by rfl) (fun w hSw => ?_) (by assumption) ?_
      rotate_left
      · (try dsimp only at hSw); first | (go_simp; done) | (go_simp; with_reducible rfl)
      simp only [List.setIfInBounds_toArray, List.set_cons_zero, List.set_cons_succ]
      refine heldTake (v := ?_) 19 64 rfl rfl (by kernel_rfl) (by kernel_rfl) (by kernel_rfl) (fun _ _ _ h => h) (by rfl) (fun w hSw => ?_) (by assumption) ?_
      rotate_left
      · (try dsimp only at hSw); first | (go_simp; done) | (go_simp; with_reducible rfl)
      simp only [List.setIfInBounds_toArray, List.set_cons_zero, List.set_cons_succ]
      refine heldTake (v := ?_) 20 65 rfl rfl (by kernel_rfl) (by kernel_rfl) (by kernel_rfl) (fun _ _ _ h => h) (by rfl) (fun w hSw => ?_) (by assumption) ?_
      rotate_left
      · (try dsimp only at hSw); first | (go_simp; done) | (go_simp; with_reducible rfl)
      simp only [List.setIfInBounds_toArray, List.set_cons_zero, List.set_cons_succ]
      refine heldTake (v := ?_) 21 66 rfl rfl (by kernel_rfl) (by kernel_rfl) (by kernel_rfl) (fun _ _ _ h => h) (by rfl) (fun w hSw => ?_) (by assumption) ?_
      rotate_left
      · (try dsimp only at hSw); first | (go_simp; done) | (go_simp; with_reducible rfl)
      simp only [List.setIfInBounds_toArray, List.set_cons_zero, List.set_cons_succ]
      refine heldTake (v := ?_) 22 67 rfl rfl (by kernel_rfl) (by kernel_rfl) (by kernel_rfl) (fun _ _ _ h => h) (by rfl) (fun w hSw => ?_) (by assumption) ?_
      rotate_left
      · (try dsimp only at hSw); first | (go_simp; done) | (go_simp; with_reducible rfl)
      simp only [List.setIfInBounds_toArray, List.set_cons_zero, List.set_cons_succ]
      refine heldTake (v := ?_) 23 4 rfl rfl (by kernel_rfl) (by kernel_rfl) (by kernel_rfl) (fun _ _ _ h => h) (by rfl) (fun w hSw => ?_) (by assumption) ?_
      rotate_left
      · (try dsimp only at hSw); first | (go_simp; done) | (go_simp; with_reducible rfl)
      simp only [List.setIfInBounds_toArray, List.set_cons_zero, List.set_cons_succ]
      refine wpAnyH_done (by kernel_rfl) ?_ _
      have HB9 : Hid (Below w.heap.size w _) := hHeld.2.2.2
      clear hHeld
      go_wp2
      go_ret
      exact ⟨by simp [h2], HB9.out⟩

end Go.Proofs.Ytjpcljmlkgjbgaa

namespace Go.Proofs.Ytjpcljmlkgjbgaa
open Go.RowKit Go.Lib
set_option linter.unusedVariables false

/-- A table's columns. -/
def colsF (L : List (List Int)) (t : Int) : List Int := L[t.toNat]?.getD []

/-- Can it be done to a row of one of these forms? -/
def withinF (L : List (List Int)) (x : PO) : Bool :=
  placeF L.length x.table && keyF x.key &&
    (if x.kind = 1 then putF x.vals (colsF L x.table) && decide (x.col = 0) && decide (x.dots.length = 0)
     else if x.kind = 2 then placeF (colsF L x.table).length x.col && (putF x.vals [(colsF L x.table)[x.col.toNat]?.getD 0] && decide (x.dots.length = 0))
     else if x.kind = 3 then remF x.deps x.dots && decide (x.col = 0) && decide (x.vals.length = 0)
     else false)

/-- op.Check's answer. -/
def checkF (n : Int) (L : List (List Int)) (x : PO) : Int := if formsF L ≠ 0 then formsF L else if (decide (1 ≤ n ∧ n ≤ 5) && issuedF n x && withinF L x) = true then 0 else 1

theorem opWithin_any (af : Option Addr) (nf fcap : Nat) (L : List (List Int)) (x : PO) (da va oa : Option Addr) (dc vc oc : Nat) (w : World) (hn : L.length = nf) (hnf : nf ≤ 65536) (hv : ∀ v ∈ L, v.length ≤ 65536) (hr : RdII w af L) (h : LiesO w x da va oa dc vc oc) (hx : I64O x) :
    Calls Try.prog 51 #[.slice af nf fcap, .agg (cellsO x da va oa dc vc oc)] w fun e w' => e = .returned (.bool (withinF L x)) ∧ Below w.heap.size w w' := by
  subst hn
  obtain ⟨dp, dn, deps, sp, sl, sq, kind, table, key, col, vals, dots⟩ := x
  unfold withinF
  simp only [cellsO]
  cases h0 : (placeF L.length table && keyF key) with
  | false => exact opWithin_out dp dn sp sl sq kind table col key da va oa deps.length vals.length dots.length dc vc oc af L.length fcap w h.key h0
  | true =>
    rw [Bool.true_and]
    obtain ⟨hp, hkey⟩ := Bool.and_eq_true_iff.1 h0
    have hp' : 0 ≤ table ∧ table < (L.length : Int) := by simpa [placeF] using hp
    obtain ⟨z, rfl⟩ : ∃ z : Nat, table = z := ⟨table.toNat, by omega⟩
    have hz : z < L.length := by omega
    obtain ⟨bf, of_, rfl, hc⟩ := hr (by omega)
    obtain ⟨u, hcell, ac, cc, rfl, hcc, hrc, hnc⟩ := hc z hz
    have hcl := hv _ (List.getElem_mem hz)
    have ecols : colsF L (z : Int) = L[z] := by
      unfold colsF
      rw [show ((z : Int).toNat) = z from by omega, List.getElem?_eq_getElem hz]
      rfl
    rw [ecols]
    by_cases k1 : kind = 1
    · rw [if_pos k1]
      exact opWithin_ins dp dn sp sl sq kind z col key da va oa deps.length vals.length dots.length dc vc oc bf of_ L.length fcap z ac L[z].length cc _ w h.key hkey rfl hz hnf k1 hcell (fun W hb => opPut_any va ac vals.length L[z].length vc cc vals L[z] W rfl rfl h.lv hcl (h.vals.later hb) (hrc.later hb))
    rw [if_neg k1]
    by_cases k2 : kind = 2
    · rw [if_pos k2]
      subst k2
      cases hpc : placeF L[z].length col with
      | false => exact opWithin_updNo dp dn sp sl sq key da va oa deps.length vals.length dots.length dc vc oc col bf of_ L.length fcap z ac L[z].length cc w h.key hkey hz hnf hcl hcell hpc
      | true =>
        rw [Bool.true_and]
        have hpc' : 0 ≤ col ∧ col < (L[z].length : Int) := by simpa [placeF] using hpc
        obtain ⟨j, rfl⟩ : ∃ j : Nat, col = j := ⟨col.toNat, by omega⟩
        have hj : j < L[z].length := by omega
        obtain ⟨bc, ob, rfl, hcs⟩ := hrc (by omega)
        have ej : L[z][(j : Int).toNat]?.getD 0 = L[z][j] := by
          rw [show ((j : Int).toNat) = j from by omega, List.getElem?_eq_getElem hj]
          rfl
        rw [ej]
        refine opWithin_upd dp dn sp sl sq key da va oa deps.length vals.length dots.length dc vc oc j _ bf of_ L.length fcap z bc ob L[z].length cc w h.key hkey hz hnf hcl hj hcc hcell (fun W hb => opPut_any va (some ⟨bc, ob + j, none⟩) vals.length 1 vc (cc - j) vals [L[z][j]] W rfl rfl h.lv (by omega) (h.vals.later hb) ?_)
        refine fun _ => ⟨bc, ob + j, rfl, fun i hi => ?_⟩
        obtain rfl : i = 0 := by simp at hi; omega
        exact cell_later hb (hcs j hj)
    rw [if_neg k2]
    by_cases k3 : kind = 3
    · rw [if_pos k3]
      exact opWithin_del dp dn sp sl sq kind z col key da va oa deps.length vals.length dots.length dc vc oc bf of_ L.length fcap z ac L[z].length cc _ w h.key hkey rfl hz hnf k3 hcell (fun W hb => opRem_any oa da dots.length deps.length oc dc dots deps W rfl h.lo rfl h.ld (h.dots.later hb) (h.deps.later hb) hx.deps hx.dots)
    rw [if_neg k3]
    exact opWithin_none dp dn sp sl sq kind z col key da va oa deps.length vals.length dots.length dc vc oc bf of_ L.length fcap z ac L[z].length cc w h.key hkey rfl hz hnf ⟨k1, k2, k3⟩ hcell

theorem opCheck_any (n : Int) (af : Option Addr) (nf fcap : Nat) (L : List (List Int)) (x : PO) (da va oa : Option Addr) (dc vc oc : Nat) (w : World) (hn : L.length = nf) (hnf : nf ≤ 65536) (hv : ∀ v ∈ L, v.length ≤ 65536) (hr : RdII w af L) (h : LiesO w x da va oa dc vc oc) (hx : I64O x) :
    Calls Try.prog 17 #[.int .i64 n, .slice af nf fcap, .agg (cellsO x da va oa dc vc oc)] w fun e w' => e = .returned (.int .i64 (checkF n L x)) ∧ Below w.heap.size w w' :=
  opCheck_of x.dp x.dn x.sp x.sl x.sq x.kind x.table x.col x.key da va oa x.deps.length x.vals.length x.dots.length dc vc oc n af nf fcap (formsF L) (issuedF n x) (withinF L x) w
    (fun W hb => opForms_any af nf fcap L W hn hnf hv (hr.later hb)) (fun W hb => opIssued_any n x da va oa dc vc oc W (h.later hb) hx) (fun W hb => opWithin_any af nf fcap L x da va oa dc vc oc W hn hnf hv (hr.later hb) (h.later hb) hx)

end Go.Proofs.Ytjpcljmlkgjbgaa

namespace Go.Proofs.Ytjpcljmlkgjbgaa
open Go.RowKit Go.Lib
set_option linter.unusedVariables false

theorem formsF_ok {L : List (List Int)} (h : formsF L = 0) : 1 ≤ L.length ∧ L.length ≤ 3 ∧ L.all widthF = true ∧ L.all (fun v => v.all typeF) = true := by
  unfold formsF at h
  by_cases h1 : L.length < 1 ∨ 3 < L.length
  · rw [if_pos h1] at h
    exact absurd h (by decide)
  rw [if_neg h1] at h
  by_cases h2 : L.all widthF = true
  · rw [if_pos h2] at h
    by_cases h3 : L.all (fun v => v.all typeF) = true
    · exact ⟨by omega, by omega, h2, h3⟩
    · rw [if_neg h3] at h
      exact absurd h (by decide)
  · rw [if_neg h2] at h
    exact absurd h (by decide)

theorem cols_few {L : List (List Int)} (h : formsF L = 0) (t : Int) : (colsF L t).length ≤ 4 := by
  obtain ⟨_, _, h3, _⟩ := formsF_ok h
  unfold colsF
  rcases Nat.lt_or_ge t.toNat L.length with hl | hl
  · rw [List.getElem?_eq_getElem hl, Option.getD_some]
    have := (List.all_eq_true.1 h3) _ (List.getElem_mem hl)
    unfold widthF at this
    have := of_decide_eq_true this
    omega
  · rw [List.getElem?_eq_none hl]
    exact Nat.zero_le _

theorem smallV_ok {v : PV} (h : smallV v = true) : okV v = true := by
  unfold smallV at h
  exact (Bool.and_eq_true_iff.1 h).1

theorem putF_chk {vs : List PV} {ts : List Int} (h : putF vs ts = true) (h4 : ts.length ≤ 4) : chkR vs = 0 := by
  unfold putF at h
  obtain ⟨h1, h2⟩ := Bool.and_eq_true_iff.1 h
  have := fitsR_len h1
  refine chkR_ok.2 ⟨by omega, ?_⟩
  rw [List.all_eq_true] at h2 ⊢
  exact fun v hv => smallV_ok (h2 v hv)

theorem fitsF_of {n : Int} {s : Nat} (h0 : 0 ≤ n) (h : n < ((256 ^ s : Nat) : Int)) : fitsF n s = true := decide_eq_true ⟨h0, h⟩

theorem checkF_ok {n : Int} {L : List (List Int)} {x : PO} (h : checkF n L x = 0) : formsF L = 0 ∧ 1 ≤ n ∧ n ≤ 5 ∧ issuedF n x = true ∧ withinF L x = true := by
  unfold checkF at h
  by_cases hf : formsF L ≠ 0
  · rw [if_pos hf] at h
    exact absurd h hf
  rw [if_neg hf] at h
  by_cases hc : (decide (1 ≤ n ∧ n ≤ 5) && issuedF n x && withinF L x) = true
  · simp only [Bool.and_eq_true, decide_eq_true_eq] at hc
    exact ⟨by omega, hc.1.1.1, hc.1.1.2, hc.1.2, hc.2⟩
  · rw [if_neg hc] at h
    exact absurd h (by decide)

theorem issuedF_ok {n : Int} {x : PO} (h : issuedF n x = true) : (x.deps.length : Int) = n ∧ x.deps.length ≤ 5 ∧ rightD x.deps = true ∧ (∃ (q : Nat) (hq : q < x.deps.length), x.dp = q ∧ x.dn = x.deps[q] + 1) ∧ x.dn ≤ 1073741824 ∧ okS ⟨x.sp, x.sl, x.sq⟩ = true ∧ x.sq = x.dp := by
  unfold issuedF at h
  simp only [Bool.and_eq_true, decide_eq_true_eq] at h
  obtain ⟨⟨⟨⟨⟨h1, h2⟩, h3⟩, h4⟩, h5⟩, h6⟩ := h
  obtain ⟨c1, c2, c3⟩ := chkD_ok.1 h2
  unfold nextD at h3
  simp only [Bool.and_eq_true, decide_eq_true_eq] at h3
  obtain ⟨q, hq, e1, e2⟩ := atD_at h3.1
  refine ⟨h1, c2, c3, ⟨q, hq, e1, by rw [h3.2, e2]⟩, h4, ?_, h6⟩
  cases hs : okS ⟨x.sp, x.sl, x.sq⟩ with
  | true => rfl
  | false =>
    unfold chkS at h5
    rw [hs] at h5
    exact absurd h5 (by decide)

theorem remF_ok {deps : List Int} {ds : List (Int × Int)} (h : remF deps ds = true) : 1 ≤ ds.length ∧ ds.length ≤ 64 ∧ ∀ d ∈ ds, hasD deps d.1 d.2 = true := by
  unfold remF at h
  simp only [Bool.and_eq_true, decide_eq_true_eq, List.all_eq_true, List.mem_range] at h
  obtain ⟨⟨h1, h2⟩, h3⟩ := h
  refine ⟨h1, h2, fun d hd => ?_⟩
  obtain ⟨i, hi, rfl⟩ := List.mem_iff_getElem.1 hd
  have := h3 i hi
  unfold stepF at this
  rw [List.getElem?_eq_getElem hi, Option.getD_some] at this
  exact (Bool.and_eq_true_iff.1 this).1

theorem hasD_fits {deps : List Int} {d : Int × Int} (hr : rightD deps = true) (h5 : deps.length ≤ 5) (h : hasD deps d.1 d.2 = true) : fitsD d = true := by
  unfold hasD at h
  simp only [Bool.and_eq_true, decide_eq_true_eq] at h
  obtain ⟨q, hq, e1, e2⟩ := atD_at h.1
  have := rightD_at hr hq
  rw [e2] at h
  unfold fitsD
  rw [fitsF_of (by omega) (by omega), fitsF_of (by omega) (by omega)]
  rfl

/-- What may be can be written. -/
theorem check_fits {n : Int} {L : List (List Int)} {x : PO} (h : checkF n L x = 0) : fitsO x = true := by
  obtain ⟨hf, hn1, hn5, hi, hw⟩ := checkF_ok h
  obtain ⟨i1, i2, i3, ⟨q, hq, i4, i5⟩, i6, i7, i8⟩ := issuedF_ok hi
  have hd := rightD_at i3 hq
  have hs := of_decide_eq_true i7
  simp only at hs
  obtain ⟨f1, f2, _, _⟩ := formsF_ok hf
  unfold withinF at hw
  simp only [Bool.and_eq_true] at hw
  obtain ⟨⟨w1, w2⟩, w3⟩ := hw
  have w1' := of_decide_eq_true w1
  have w2' := of_decide_eq_true w2
  have a1 : fitsD (x.dp, x.dn) = true := by
    unfold fitsD
    simp only
    rw [fitsF_of (by omega) (by omega), fitsF_of (by omega) (by omega)]
    rfl
  have a2 : fitsVec x.deps = true := by
    unfold fitsVec
    rw [decide_eq_true i2, Bool.and_true, List.all_eq_true]
    intro v hv
    obtain ⟨i, hi, rfl⟩ := List.mem_iff_getElem.1 hv
    have := rightD_at i3 hi
    exact fitsF_of (by omega) (by omega)
  have a3 : fitsS x.sp x.sl x.sq = true := by
    unfold fitsS
    rw [fitsF_of (by omega) (by omega), fitsF_of (by omega) (by omega), fitsF_of (by omega) (by omega)]
    rfl
  have a4 : fitsF x.table 1 = true := fitsF_of (by omega) (by omega)
  have a5 : decide (x.key.size ≤ 24) = true := decide_eq_true (by omega)
  have rest : fitsF x.kind 1 = true ∧ fitsF x.col 1 = true ∧ decide (chkR x.vals = 0) = true ∧ decide (x.dots.length ≤ 64) = true ∧ x.dots.all fitsD = true := by
    have hcols := cols_few hf x.table
    by_cases k1 : x.kind = 1
    · rw [if_pos k1] at w3
      simp only [Bool.and_eq_true, decide_eq_true_eq] at w3
      obtain ⟨⟨p1, p2⟩, p3⟩ := w3
      have e : x.dots = [] := List.eq_nil_of_length_eq_zero p3
      exact ⟨fitsF_of (by omega) (by omega), fitsF_of (by omega) (by omega), decide_eq_true (putF_chk p1 hcols), by rw [e]; rfl, by rw [e]; rfl⟩
    rw [if_neg k1] at w3
    by_cases k2 : x.kind = 2
    · rw [if_pos k2] at w3
      simp only [Bool.and_eq_true, decide_eq_true_eq] at w3
      obtain ⟨p1, p2, p3⟩ := w3
      have p1' := of_decide_eq_true p1
      have e : x.dots = [] := List.eq_nil_of_length_eq_zero p3
      exact ⟨fitsF_of (by omega) (by omega), fitsF_of (by omega) (by omega), decide_eq_true (putF_chk p2 (by simp)), by rw [e]; rfl, by rw [e]; rfl⟩
    rw [if_neg k2] at w3
    by_cases k3 : x.kind = 3
    · rw [if_pos k3] at w3
      simp only [Bool.and_eq_true, decide_eq_true_eq] at w3
      obtain ⟨⟨p1, p2⟩, p3⟩ := w3
      obtain ⟨r1, r2, r3⟩ := remF_ok p1
      have e : x.vals = [] := List.eq_nil_of_length_eq_zero p3
      exact ⟨fitsF_of (by omega) (by omega), fitsF_of (by omega) (by omega), by rw [e]; rfl, decide_eq_true r2, List.all_eq_true.2 fun d hd => hasD_fits i3 i2 (r3 d hd)⟩
    · rw [if_neg k3] at w3
      cases w3
  obtain ⟨b1, b2, b3, b4, b5⟩ := rest
  unfold fitsO
  rw [b1, a1, a2, a3, a4, a5, b2, b3, b4, b5]
  rfl

/-- HeavyForms' answer. -/
def heavyFs (L : List (List Int)) : Bool := decide (30 < L.length) || L.any fun v => decide (30 < v.length)

set_option maxRecDepth 100000 in
set_option maxHeartbeats 1000000 in
theorem heavyForms_any (a : Option Addr) (n cap : Nat) (L : List (List Int)) (w : World) (hn : L.length = n) (hl : n ≤ 9223372036854775807) (hv : ∀ v ∈ L, v.length ≤ 9223372036854775807) (hr : RdII w a L) :
    Calls Try.prog 15 #[.slice a n cap] w fun e w' => e = .returned (.bool (heavyFs L)) ∧ w' = w := by
  by_cases h30 : 30 < n
  · have e : heavyFs L = true := by unfold heavyFs; rw [decide_eq_true (by omega), Bool.true_or]
    rw [e]
    have hd : decide ((30 : Int) < (n : Int)) = true := by simp; omega
    clear hn hr e hv
    go_enter Try.func15, Try.ntmps15
    go_wp2
    go_ret
    exact ⟨rfl, rfl⟩
  have hd : decide ((30 : Int) < (n : Int)) = false := by simp; omega
  have HE : Hid (heavyFs L = L.any fun v => decide (30 < v.length)) := by show _ = _; unfold heavyFs; rw [decide_eq_false (by omega), Bool.false_or]
  have HN : Hid (L.length = n) := hn
  have HR : Hid (RdII w a L) := hr
  have HV : Hid (∀ v ∈ L, v.length ≤ 9223372036854775807) := hv
  clear hn hr hv
  go_enter Try.func15, Try.ntmps15
  go_wp2
  go_loop [3] (fun i => ∃ k : Nat, k ≤ n ∧ i = .int .i64 k ∧ Hid ((L.take k).any (fun v => decide (30 < v.length)) = false)) (fun i => n - (RowKit.intOf i).toNat)
  case atStart => exact ⟨0, Nat.zero_le _, rfl, rfl⟩
  case round =>
    obtain ⟨k, hk, rfl, hT⟩ := hrel
    by_cases hlt : k < n
    · have hkl : k < L.length := by rw [HN.out]; exact hlt
      obtain ⟨b, off, rfl, hc⟩ := HR.out (by omega)
      obtain ⟨u, x0, a2, cap2, rfl, hc2, hr2, hn2⟩ := hc k hkl
      have HS : Hid ((L.take (k + 1)).any (fun v => decide (30 < v.length)) = decide (30 < L[k].length)) := by
        have h := hT.out
        show _ = _
        rw [List.take_succ_eq_append_getElem hkl, List.any_append, h]
        simp
      have HX : Hid (30 < L[k].length → heavyFs L = true) := fun h => by
        rw [HE.out, List.any_eq_true]
        exact ⟨_, List.getElem_mem hkl, decide_eq_true h⟩
      have hlk := HV.out _ (List.getElem_mem hkl)
      clear hc hc2 hr2 hn2
      generalize L[k].length = m at *
      clear hkl
      by_cases c1 : 30 < m
      · have d1 : decide ((30 : Int) < (m : Int)) = true := by simp; omega
        have HX' : Hid (heavyFs L = true) := HX.out c1
        clear HS HX
        go_wp2
        go_ret
        exact ⟨by rw [HX'.out]; rfl, rfl⟩
      · have d1 : decide ((30 : Int) < (m : Int)) = false := by simp; omega
        have HS' : Hid ((L.take (k + 1)).any (fun v => decide (30 < v.length)) = false) := by rw [HS.out]; exact decide_eq_false c1
        clear HS HX
        go_wp2
        go_round
        case rel => exact ⟨k + 1, by omega, by go_num, HS'⟩
        case measure => simp [RowKit.intOf]; omega
    · have h := hT.out
      rw [List.take_of_length_le (by rw [HN.out]; omega)] at h
      have HH : Hid (heavyFs L = false) := HE.out.trans h
      clear h
      go_wp2
      go_ret
      exact ⟨by rw [HH.out]; rfl, rfl⟩

theorem light_forms {L : List (List Int)} (h : heavyFs L = false) : L.length ≤ 30 ∧ ∀ v ∈ L, v.length ≤ 30 := by
  unfold heavyFs at h
  simp only [Bool.or_eq_false_iff, decide_eq_false_iff_not, List.any_eq_false, decide_eq_true_eq] at h
  exact ⟨by omega, fun v hv => by have := h.2 v hv; omega⟩

/-- Two operations in a block of their own. -/
theorem rdO_two {w : World} {b : Nat} {x y : PO} {da va oa da' va' oa' : Option Addr} {dc vc oc dc' vc' oc' : Nat} {t : TypeId} {cs : Array Value} (hcs : cs = cellsO x da va oa dc vc oc ++ cellsO y da' va' oa' dc' vc' oc') (hc : CellsAt w b cs t) (hi : InO w x da va oa dc vc oc) (hj : InO w y da' va' oa' dc' vc' oc') : RdO w (some ⟨b, 0, none⟩) [x, y] := fun _ =>
  ⟨b, 0, rfl, fun i h => by
    have h2 : i < 2 := h
    rcases (by omega : i = 0 ∨ i = 1) with rfl | rfl
    · refine ⟨da, va, oa, dc, vc, oc, fun j v hj' => ?_, hi⟩
      have := hc.cell j
      have hj2 : (cellsO x da va oa dc vc oc)[j]? = some v := hj'
      rw [show 0 + 0 * 12 + j = j by omega, this, hcs, Array.getElem?_append_left ((Array.getElem?_eq_some_iff.1 hj2).1)]
      exact hj2
    · refine ⟨da', va', oa', dc', vc', oc', fun j v hj' => ?_, hj⟩
      have := hc.cell (12 + j)
      rw [show 0 + 1 * 12 + j = 12 + j by omega, this, hcs, Array.getElem?_append_right (by show 12 ≤ _; omega), show 12 + j - (cellsO x da va oa dc vc oc).size = j by show 12 + j - 12 = j; omega]
      exact hj'⟩

theorem modToO (k m : Int) (h : 0 < m) (h' : m ≤ 4611686018427387904) : ∃ v : Int, wrap64 ((IntKind.u64.wrap k).tmod m) = v ∧ 0 ≤ v ∧ v < m := by
  have h0 : 0 ≤ IntKind.u64.wrap k := by rw [IntKind.wrap_u64]; omega
  have h2 : (IntKind.u64.wrap k).tmod m = IntKind.u64.wrap k % m := Int.tmod_eq_emod_of_nonneg h0
  have h3 := Int.emod_nonneg (IntKind.u64.wrap k) (show m ≠ 0 by omega)
  have h4 := Int.emod_lt_of_pos (IntKind.u64.wrap k) h
  refine ⟨IntKind.u64.wrap k % m, ?_, h3, h4⟩
  rw [h2]
  exact IntWalk.wrap64_in _ ⟨by omega, by omega⟩

theorem placeToO (k : Int) (m : Nat) (h : 1 ≤ m) (h' : m ≤ 1048576) : ∃ j : Nat, j < m ∧ wrap64 ((IntKind.u64.wrap k).tmod (m : Int)) = (j : Int) := by
  obtain ⟨v, h1, h2, h3⟩ := modToO k m (by omega) (by omega)
  exact ⟨v.toNat, by omega, by rw [h1]; omega⟩

/-- Nothing, with no lists. -/
theorem lies_noO (w : World) : LiesO w noO none none none 0 0 0 :=
  ⟨(fun h => absurd h (by simp [noO])), (fun h => absurd h (by simp [noO])), (fun h => absurd h (by simp [noO])), by simp [noO], by simp [noO], by simp [noO], by simp [noO], by simp [noO], by simp [noO], fun _ => ⟨rfl, rfl⟩, fun _ => ⟨rfl, rfl⟩, fun _ => ⟨rfl, rfl⟩, (by show (0 : Nat) ≤ _; omega)⟩

end Go.Proofs.Ytjpcljmlkgjbgaa

namespace Go.Proofs.Ytjpcljmlkgjbgaa
open Go.RowKit Go.Lib
set_option linter.unusedVariables false

def inF (lo hi n : Int) : Bool := decide (lo ≤ n ∧ n ≤ hi)

theorem in_any (n lo hi : Int) (w : World) : Calls Try.prog 32 #[.int .i64 n, .int .i64 lo, .int .i64 hi] w fun e w' => e = .returned (.bool (inF lo hi n)) ∧ w' = w := by
  by_cases h : lo ≤ n ∧ n ≤ hi
  · rw [show inF lo hi n = true from decide_eq_true h]
    exact in_yes n lo hi w h.1 h.2
  · rw [show inF lo hi n = false from decide_eq_false h]
    exact in_no n lo hi w (by omega)

set_option maxHeartbeats 400000 in
theorem rKey_any (s : ByteArray) (w : World) (h : s.size ≤ 9223372036854775807) :
    Calls Try.prog 91 #[.string s] w fun e w' => e = .returned (.bool (keyF s)) ∧ w' = w := by
  have C := in_any (s.size : Int) 1 12 w
  have e : inF 1 12 (s.size : Int) = keyF s := by
    unfold inF keyF
    by_cases h : 1 ≤ s.size ∧ s.size ≤ 12
    · rw [decide_eq_true h, decide_eq_true (by omega)]
    · rw [decide_eq_false h, decide_eq_false (by omega)]
  rw [e] at C
  generalize keyF s = b at *
  clear e
  go_enter Try.func91, Try.ntmps91
  go_wp2_with fail
  refine C.mono ?_
  rintro e w1 ⟨rfl, hw⟩
  subst w1
  go_wp2
  go_ret
  exact ⟨rfl, rfl⟩

/-- The head, in the page's order. -/
def headF (n : Int) (nf : Nat) (x : PO) : Bool :=
  inF 0 (n - 1) x.dp && (inF 1 1073741824 x.dn && (decide ((x.deps.length : Int) = n) && (decide (chkD x.deps = 0) && (decide (atD x.deps x.dp = x.dn - 1) && (okS ⟨x.sp, x.sl, x.sq⟩ && (decide (x.sq = x.dp) && (inF 0 ((nf : Int) - 1) x.table && keyF x.key)))))))

theorem headF_eq (n : Int) (nf : Nat) (x : PO) (hn : 1 ≤ n) : headF n nf x = (issuedF n x && (placeF nf x.table && keyF x.key)) := by
  rw [Bool.eq_iff_iff]
  unfold headF issuedF inF placeF nextD placeD chkS
  simp only [Bool.and_eq_true, decide_eq_true_eq]
  constructor
  · rintro ⟨a, b, c, d, e, f, g, h, i⟩
    exact ⟨⟨⟨⟨⟨⟨c, d⟩, by omega, by omega⟩, by omega⟩, by rw [f]; rfl⟩, g⟩, by omega, i⟩
  · rintro ⟨⟨⟨⟨⟨⟨c, d⟩, e0, e1⟩, f⟩, g⟩, h⟩, i, j⟩
    have hs : okS ⟨x.sp, x.sl, x.sq⟩ = true := by
      cases hq : okS ⟨x.sp, x.sl, x.sq⟩ with
      | true => rfl
      | false =>
        rw [hq] at g
        exact absurd g (by decide)
    obtain ⟨c1, c2, c3⟩ := chkD_ok.1 d
    obtain ⟨q, hq, q1, q2⟩ := atD_at (N := x.deps) (p := x.dp) (by unfold placeD; exact decide_eq_true e0)
    have := rightD_at c3 hq
    exact ⟨by omega, by omega, c, d, by omega, hs, h, by omega, j⟩

/-- A box and a number stay. -/
theorem keepH {W w w' : World} {P : World → Prop} (hP : ∀ a b : World, Below a.heap.size a b → P a → P b) (hb : Below w.heap.size w w') (h : P w ∧ Hid (Below W.heap.size W w)) : P w' ∧ Hid (Below W.heap.size W w') := ⟨hP _ _ hb h.1, chain h.2.out hb⟩

end Go.Proofs.Ytjpcljmlkgjbgaa

namespace Go.Proofs.Ytjpcljmlkgjbgaa
open Go.RowKit Go.Lib
set_option linter.unusedVariables false

theorem rTypeF_any (t : Int) (w : World) : Calls Try.prog 88 #[.int .i64 t] w fun e w' => e = .returned (.bool (typeF t)) ∧ w' = w := by
  have C := in_any t 2 4 w
  rw [show inF 2 4 t = typeF t from rfl] at C
  generalize typeF t = b at *
  go_enter Try.func88, Try.ntmps88
  go_wp2_with fail
  refine C.mono ?_
  rintro e w1 ⟨rfl, hw⟩
  subst w1
  go_wp2
  go_ret
  exact ⟨rfl, rfl⟩

set_option maxRecDepth 100000 in
set_option maxHeartbeats 2000000 in
theorem rForms_any (a : Option Addr) (n cap : Nat) (L : List (List Int)) (w : World) (hn : L.length = n) (hl : n ≤ 9223372036854775807) (hv : ∀ v ∈ L, v.length ≤ 9223372036854775807) (hr : RdII w a L) :
    Calls Try.prog 52 #[.slice a n cap] w fun e w' => e = .returned (.int .i64 (formsF L)) ∧ w' = w := by
  have C0 := in_any (n : Int) 1 3 w
  by_cases h13 : n < 1 ∨ 3 < n
  · have e : formsF L = 2 := by unfold formsF; rw [if_pos (by omega)]
    rw [e]
    rw [show inF 1 3 (n : Int) = false from decide_eq_false (by omega)] at C0
    clear hr hv hn e
    go_enter Try.func52, Try.ntmps52
    go_wp2_with fail
    refine C0.mono ?_
    rintro e w1 ⟨rfl, hw⟩
    subst w1
    go_wp2
    go_ret
    exact ⟨rfl, rfl⟩
  rw [show inF 1 3 (n : Int) = true from decide_eq_true (by omega)] at C0
  have HE : Hid (formsF L = if L.all widthF = true then (if L.all (fun v => v.all typeF) = true then 0 else 10) else 2) := by show _ = _; unfold formsF; rw [if_neg (by omega)]
  obtain ⟨b, off, rfl, hc⟩ := hr (by omega)
  have HC : Hid (∀ i (hi : i < L.length), ∃ a2 cap2, w.cell? ⟨b, off + i, none⟩ = some (.slice a2 L[i].length cap2) ∧ RdI .i64 w a2 L[i]) := fun i hi => by
    obtain ⟨u, x0, a2, cap2, rfl, _, hr2, _⟩ := hc i hi
    exact ⟨a2, cap2, x0, hr2⟩
  have HN : Hid (L.length = n) := hn
  have HV : Hid (∀ v ∈ L, v.length ≤ 9223372036854775807) := hv
  clear hr hc hn hv
  go_enter Try.func52, Try.ntmps52
  go_wp2_with fail
  refine C0.mono ?_
  rintro e w1 ⟨rfl, hw⟩
  subst w1
  clear C0
  go_wp2
  go_loop [3] (fun i => ∃ k : Nat, k ≤ n ∧ i = .int .i64 k ∧ Hid ((L.take k).all widthF = true)) (fun i => n - (RowKit.intOf i).toNat)
  case atStart => exact ⟨0, Nat.zero_le _, rfl, rfl⟩
  case round =>
  obtain ⟨k, hk, rfl, hT⟩ := hrel
  by_cases hlt : k < n
  · have hkl : k < L.length := by rw [HN.out]; exact hlt
    obtain ⟨a2, cap2, x0, hr2⟩ := HC.out k hkl
    have hvl := HV.out _ (List.getElem_mem hkl)
    have HS : Hid ((L.take (k + 1)).all widthF = widthF L[k]) := allP_take hkl hT.out
    have HX : Hid (widthF L[k] = false → L.all widthF = false) := fun h => allP_no hkl h
    have HW : Hid (widthF L[k] = inF 1 4 (L[k].length : Int)) := by
      show _ = _
      unfold widthF inF
      by_cases c : 1 ≤ L[k].length ∧ L[k].length ≤ 4
      · rw [decide_eq_true c, decide_eq_true (by omega)]
      · rw [decide_eq_false c, decide_eq_false (by omega)]
    clear hr2
    generalize widthF L[k] = c at *
    generalize L[k].length = m at *
    have C := in_any (m : Int) 1 4 w
    rw [← HW.out] at C
    clear hkl HW
    cases c with
    | false =>
      have HF : Hid (formsF L = 2) := by rw [HE.out, HX.out (by simp)]; rfl
      go_wp2_with fail
      refine C.mono ?_
      rintro e w1 ⟨rfl, hw⟩
      subst w1
      go_wp2
      go_ret
      exact ⟨by rw [HF.out]; rfl, rfl⟩
    | true =>
      go_wp2_with fail
      refine C.mono ?_
      rintro e w1 ⟨rfl, hw⟩
      subst w1
      go_wp2
      go_round
      case rel => exact ⟨k + 1, by omega, by go_num, HS⟩
      case measure => simp [RowKit.intOf]; omega
  have HW : Hid (L.all widthF = true) := by
    have h := hT.out
    rw [List.take_of_length_le (by rw [HN.out]; omega)] at h
    exact h
  clear hT
  have hkn : k = n := by omega
  subst k
  clear hlt
  go_wp2
  go_loop [4] (fun i => ∃ k : Nat, k ≤ n ∧ i = .int .i64 k ∧ Hid ((L.take k).all (fun v => v.all typeF) = true)) (fun i => n - (RowKit.intOf i).toNat)
  case atStart => exact ⟨0, Nat.zero_le _, rfl, rfl⟩
  case round =>
  obtain ⟨k2, hk2, rfl, hT⟩ := hrel
  by_cases hlt : k2 < n
  · have hkl : k2 < L.length := by rw [HN.out]; exact hlt
    obtain ⟨a2, cap2, x0, hr2⟩ := HC.out k2 hkl
    have hvl := HV.out _ (List.getElem_mem hkl)
    have HS : Hid ((L.take (k2 + 1)).all (fun v => v.all typeF) = L[k2].all typeF) := allP_take (P := fun v : List Int => v.all typeF) hkl hT.out
    have HX : Hid (L[k2].all typeF = false → L.all (fun v => v.all typeF) = false) := fun h => allP_no (P := fun v : List Int => v.all typeF) hkl h
    have HR2 : Hid (RdI .i64 w a2 L[k2]) := hr2
    generalize L[k2] = N at *
    clear hkl hr2
    obtain ⟨m, hm⟩ : ∃ m, N.length = m := ⟨_, rfl⟩
    rw [hm] at x0 hvl
    have HM : Hid (N.length = m) := hm
    clear hm hT
    go_wp2
    go_loop [5] (fun i => ∃ q : Nat, q ≤ m ∧ i = .int .i64 q ∧ Hid ((N.take q).all typeF = true)) (fun i => m - (RowKit.intOf i).toNat)
    case atStart => exact ⟨0, Nat.zero_le _, rfl, rfl⟩
    case round =>
    obtain ⟨q, hq, rfl, hQ⟩ := hrel
    by_cases hlq : q < m
    · have hql : q < N.length := by rw [HM.out]; exact hlq
      obtain ⟨b3, o3, rfl, hc3⟩ := HR2.out (by omega)
      have y0 := hc3 q hql
      have HS3 : Hid ((N.take (q + 1)).all typeF = typeF N[q]) := allP_take hql hQ.out
      have HX3 : Hid (typeF N[q] = false → N.all typeF = false) := fun h => allP_no hql h
      clear hc3
      generalize N[q] = t at *
      clear hql
      have C := rTypeF_any t w
      generalize typeF t = c at *
      cases c with
      | true =>
        go_wp2_with fail
        refine C.mono ?_
        rintro e w1 ⟨rfl, hw⟩
        subst w1
        go_wp2
        go_round
        case rel => exact ⟨q + 1, by omega, by go_num, HS3⟩
        case measure => simp [RowKit.intOf]; omega
      | false =>
        have HF : Hid (formsF L = 10) := by rw [HE.out, HW.out, HX.out (HX3.out (by simp))]; rfl
        go_wp2_with fail
        refine C.mono ?_
        rintro e w1 ⟨rfl, hw⟩
        subst w1
        go_wp2
        go_ret
        exact ⟨by rw [HF.out]; rfl, rfl⟩
    have HQ : Hid (N.all typeF = true) := by
      have h := hQ.out
      rw [List.take_of_length_le (by rw [HM.out]; omega)] at h
      exact h
    have HT' : Hid ((L.take (k2 + 1)).all (fun v => v.all typeF) = true) := by rw [HS.out]; exact HQ
    go_wp2
    go_round
    case rel => exact ⟨k2 + 1, by omega, by go_num, HT'⟩
    case measure => simp [RowKit.intOf]; omega
  have HF : Hid (formsF L = 0) := by
    have h := hT.out
    rw [List.take_of_length_le (by rw [HN.out]; omega)] at h
    rw [HE.out, HW.out, h]
    rfl
  go_wp2
  go_ret
  exact ⟨by rw [HF.out]; rfl, rfl⟩

end Go.Proofs.Ytjpcljmlkgjbgaa

namespace Go.Proofs.Ytjpcljmlkgjbgaa
open Go.RowKit Go.Lib
set_option linter.unusedVariables false

theorem lawCheck_of (dp dn sp sl sq kind table col : Int) (key : ByteArray) (da va oa : Option Addr) (m nv no dc vc oc : Nat) (n : Int) (af : Option Addr) (nf fcap : Nat) (cf : Int) (b : Bool) (w : World)
    (C1 : ∀ W, Below w.heap.size w W → Calls Try.prog 52 #[.slice af nf fcap] W fun e w' => e = .returned (.int .i64 cf) ∧ Below W.heap.size W w')
    (C2 : cf = 0 → 1 ≤ n → n ≤ 5 → ∀ W, Below w.heap.size w W → Calls Try.prog 53 #[.int .i64 n, .slice af nf fcap, .agg #[.int .i64 dp, .int .i64 dn, .slice da m dc, .int .i64 sp, .int .i64 sl, .int .i64 sq, .int .i64 kind, .int .i64 table, .string key, .int .i64 col, .slice va nv vc, .slice oa no oc]] W fun e w' => e = .returned (.bool b) ∧ Below W.heap.size W w') :
    Calls Try.prog 18 #[.int .i64 n, .slice af nf fcap, .agg #[.int .i64 dp, .int .i64 dn, .slice da m dc, .int .i64 sp, .int .i64 sl, .int .i64 sq, .int .i64 kind, .int .i64 table, .string key, .int .i64 col, .slice va nv vc, .slice oa no oc]] w fun e w' => e = .returned (.int .i64 (if cf ≠ 0 then cf else if (decide (1 ≤ n ∧ n ≤ 5) && b) = true then 0 else 1)) ∧ Below w.heap.size w w' := by
  have HK : Hid (CellsAt (w.alloc (.cells #[.int .i64 dp, .int .i64 dn, .slice da m dc, .int .i64 sp, .int .i64 sl, .int .i64 sq, .int .i64 kind, .int .i64 table, .string key, .int .i64 col, .slice va nv vc, .slice oa no oc] 32)) w.heap.size #[.int .i64 dp, .int .i64 dn, .slice da m dc, .int .i64 sp, .int .i64 sl, .int .i64 sq, .int .i64 kind, .int .i64 table, .string key, .int .i64 col, .slice va nv vc, .slice oa no oc] 32) := CellsAt.made rfl
  have HB0 : Hid (Below w.heap.size w (w.alloc (.cells #[.int .i64 dp, .int .i64 dn, .slice da m dc, .int .i64 sp, .int .i64 sl, .int .i64 sq, .int .i64 kind, .int .i64 table, .string key, .int .i64 col, .slice va nv vc, .slice oa no oc] 32))) := alloc_below _ _
  have HC : Hid (∀ W, Below (w.alloc (.cells #[.int .i64 dp, .int .i64 dn, .slice da m dc, .int .i64 sp, .int .i64 sl, .int .i64 sq, .int .i64 kind, .int .i64 table, .string key, .int .i64 col, .slice va nv vc, .slice oa no oc] 32)).heap.size (w.alloc (.cells #[.int .i64 dp, .int .i64 dn, .slice da m dc, .int .i64 sp, .int .i64 sl, .int .i64 sq, .int .i64 kind, .int .i64 table, .string key, .int .i64 col, .slice va nv vc, .slice oa no oc] 32)) W → W.cell? ⟨w.heap.size, 0, none⟩ = some (.int .i64 dp) ∧ W.cell? ⟨w.heap.size, 1, none⟩ = some (.int .i64 dn) ∧ W.cell? ⟨w.heap.size, 2, none⟩ = some (.slice da m dc) ∧ W.cell? ⟨w.heap.size, 3, none⟩ = some (.int .i64 sp) ∧ W.cell? ⟨w.heap.size, 4, none⟩ = some (.int .i64 sl) ∧ W.cell? ⟨w.heap.size, 5, none⟩ = some (.int .i64 sq) ∧ W.cell? ⟨w.heap.size, 6, none⟩ = some (.int .i64 kind) ∧ W.cell? ⟨w.heap.size, 7, none⟩ = some (.int .i64 table) ∧ W.cell? ⟨w.heap.size, 8, none⟩ = some (.string key) ∧ W.cell? ⟨w.heap.size, 9, none⟩ = some (.int .i64 col) ∧ W.cell? ⟨w.heap.size, 10, none⟩ = some (.slice va nv vc) ∧ W.cell? ⟨w.heap.size, 11, none⟩ = some (.slice oa no oc)) := fun W hb => by
    have k := HK.out.later hb
    exact ⟨k.cell 0, k.cell 1, k.cell 2, k.cell 3, k.cell 4, k.cell 5, k.cell 6, k.cell 7, k.cell 8, k.cell 9, k.cell 10, k.cell 11⟩
  clear HK
  by_cases hc : cf = 0
  case neg =>
    rw [if_pos hc]
    have q0 : (cf != 0) = true := by simp [hc]
    go_enter Try.func18, Try.ntmps18
    go_wp2_with fail
    refine (C1 _ HB0.out).mono ?_
    rintro e w1 ⟨rfl, hb1⟩
    obtain ⟨f0, f1, f2, f3, f4, f5, f6, f7, f8, f9, f10, f11⟩ := HC.out w1 hb1
    have HB1 : Hid (Below w.heap.size w w1) := chain HB0.out hb1
    clear hb1
    go_wp2
    go_ret
    exact ⟨rfl, HB1.out⟩
  subst hc
  rw [if_neg (by simp)]
  by_cases h1 : n < 1
  case pos =>
    rw [show decide (1 ≤ n ∧ n ≤ 5) = false from by simp; omega]
    go_enter Try.func18, Try.ntmps18
    go_wp2_with fail
    refine (C1 _ HB0.out).mono ?_
    rintro e w1 ⟨rfl, hb1⟩
    obtain ⟨f0, f1, f2, f3, f4, f5, f6, f7, f8, f9, f10, f11⟩ := HC.out w1 hb1
    have HB1 : Hid (Below w.heap.size w w1) := chain HB0.out hb1
    clear hb1
    go_wp2
    go_ret
    exact ⟨rfl, HB1.out⟩
  by_cases h5 : 5 < n
  case pos =>
    rw [show decide (1 ≤ n ∧ n ≤ 5) = false from by simp; omega]
    go_enter Try.func18, Try.ntmps18
    go_wp2_with fail
    refine (C1 _ HB0.out).mono ?_
    rintro e w1 ⟨rfl, hb1⟩
    obtain ⟨f0, f1, f2, f3, f4, f5, f6, f7, f8, f9, f10, f11⟩ := HC.out w1 hb1
    have HB1 : Hid (Below w.heap.size w w1) := chain HB0.out hb1
    clear hb1
    go_wp2
    go_ret
    exact ⟨rfl, HB1.out⟩
  rw [show decide (1 ≤ n ∧ n ≤ 5) = true from by simp; omega]
  have C3 := C2 rfl (by omega) (by omega)
  cases b with
  | false =>
    go_enter Try.func18, Try.ntmps18
    go_wp2_with fail
    refine (C1 _ HB0.out).mono ?_
    rintro e w1 ⟨rfl, hb1⟩
    obtain ⟨f0, f1, f2, f3, f4, f5, f6, f7, f8, f9, f10, f11⟩ := HC.out w1 hb1
    have HB1 : Hid (Below w.heap.size w w1) := chain HB0.out hb1
    clear hb1
    go_wp2_with fail
    refine (C3 _ HB1.out).mono ?_
    rintro e w2 ⟨rfl, hb2⟩
    have HB2 : Hid (Below w.heap.size w w2) := chain HB1.out hb2
    clear hb2
    go_wp2
    go_ret
    exact ⟨rfl, HB2.out⟩
  | true =>
    go_enter Try.func18, Try.ntmps18
    go_wp2_with fail
    refine (C1 _ HB0.out).mono ?_
    rintro e w1 ⟨rfl, hb1⟩
    obtain ⟨f0, f1, f2, f3, f4, f5, f6, f7, f8, f9, f10, f11⟩ := HC.out w1 hb1
    have HB1 : Hid (Below w.heap.size w w1) := chain HB0.out hb1
    clear hb1
    go_wp2_with fail
    refine (C3 _ HB1.out).mono ?_
    rintro e w2 ⟨rfl, hb2⟩
    have HB2 : Hid (Below w.heap.size w w2) := chain HB1.out hb2
    clear hb2
    go_wp2
    go_ret
    exact ⟨rfl, HB2.out⟩

end Go.Proofs.Ytjpcljmlkgjbgaa

namespace Go.Proofs.Ytjpcljmlkgjbgaa
open Go.RowKit Go.Lib
set_option linter.unusedVariables false

set_option maxRecDepth 100000 in
set_option maxHeartbeats 16000000 in
theorem rOp_other (n : Int) (af : Option Addr) (nf fcap : Nat) (x : PO) (da va oa : Option Addr) (dc vc oc : Nat) (w : World) (hn1 : 1 ≤ n) (hn5 : n ≤ 5) (hnf : nf ≤ 3) (h : LiesO w x da va oa dc vc oc) (hx : I64O x) (HS9 : Hid True) (L : List (List Int)) (hL : L.length = nf) (hv : ∀ v ∈ L, v.length ≤ 65536) (hr : RdII w af L) (h1 : inF 0 (n - 1) x.dp = true) (h2 : inF 1 1073741824 x.dn = true) (h3 : decide ((x.deps.length : Int) = n) = true) (h4 : decide (chkD x.deps = 0) = true) (h5 : decide (atD x.deps x.dp = x.dn - 1) = true) (h6 : okS ⟨x.sp, x.sl, x.sq⟩ = true) (h7 : decide (x.sq = x.dp) = true) (h8 : inF 0 ((nf : Int) - 1) x.table = true) (h9 : keyF x.key = true) (hk : x.kind ≠ 1 ∧ x.kind ≠ 2 ∧ x.kind ≠ 3) :
    Calls Try.prog 53 #[.int .i64 n, .slice af nf fcap, .agg (cellsO x da va oa dc vc oc)] w fun e w' => e = .returned (.bool false) ∧ Below w.heap.size w w' := by
  have hdn := hx.dn
  obtain ⟨dp, dn, deps, sp, sl, sq, kind, table, key, col, vals, dots⟩ := x
  simp only [cellsO] at h hdn HS9 h8 hk ⊢
  have hkey : key.size ≤ 9223372036854775807 := h.key
  have HL : Hid (LiesO w ⟨dp, dn, deps, sp, sl, sq, kind, table, key, col, vals, dots⟩ da va oa dc vc oc) := h
  obtain ⟨B, hBB⟩ : ∃ B : World, B = w.alloc (.cells #[.int .i64 dp, .int .i64 dn, .slice da deps.length dc, .int .i64 sp, .int .i64 sl, .int .i64 sq, .int .i64 kind, .int .i64 table, .string key, .int .i64 col, .slice va vals.length vc, .slice oa dots.length oc] 32) := ⟨_, rfl⟩
  have HK : Hid (CellsAt B w.heap.size #[.int .i64 dp, .int .i64 dn, .slice da deps.length dc, .int .i64 sp, .int .i64 sl, .int .i64 sq, .int .i64 kind, .int .i64 table, .string key, .int .i64 col, .slice va vals.length vc, .slice oa dots.length oc] 32) := by rw [hBB]; exact CellsAt.made rfl
  have HB0 : Hid (Below w.heap.size w B) := by rw [hBB]; exact alloc_below _ _
  have HBB : Hid (B = w.alloc (.cells #[.int .i64 dp, .int .i64 dn, .slice da deps.length dc, .int .i64 sp, .int .i64 sl, .int .i64 sq, .int .i64 kind, .int .i64 table, .string key, .int .i64 col, .slice va vals.length vc, .slice oa dots.length oc] 32)) := hBB
  have hld : deps.length ≤ 65536 := h.ld
  clear hBB h
  have D1 := fun V => in_any dp 0 (n - 1) V
  have D2 := fun V => in_any dn 1 1073741824 V
  have D4 := fun (V : World) (hb : Below B.heap.size B V) => rVector_any da deps.length dc deps V rfl (by omega) (HL.out.deps.later (chain HB0.out hb))
  have D6 := fun V => rStamp_any sp sl sq V
  have D8 := fun V => in_any table 0 ((nf : Int) - 1) V
  have D9 := fun V => rKey_any key V hkey
  have HAT : Hid (∀ q : Nat, dp = q → q < deps.length → ∃ b o, da = some ⟨b, o, none⟩ ∧ B.cell? ⟨b, o + q, none⟩ = some (.int .i64 (atD deps dp))) := fun q hq hql => by
    obtain ⟨b, o, e, hc⟩ := (HL.out.deps.later HB0.out) (by show 0 < deps.length; omega)
    refine ⟨b, o, e, ?_⟩
    rw [hc q hql]
    have e2 : atD deps dp = deps[q] := by
      unfold atD
      rw [hq, Int.toNat_natCast, List.getElem?_eq_getElem hql, Option.getD_some]
    rw [e2]
  have w1 : IntKind.i64.wrap (n - 1) = n - 1 := by rw [IntKind.wrap_i64]; omega
  have w3 : IntKind.i64.wrap ((nf : Int) - 1) = (nf : Int) - 1 := by rw [IntKind.wrap_i64]; omega
  have hz : 0 ≤ table ∧ table ≤ (nf : Int) - 1 := of_decide_eq_true h8
  obtain ⟨z, rfl⟩ : ∃ z : Nat, table = z := ⟨table.toNat, by omega⟩
  have hzl : z < L.length := by omega
  have HFT : Hid (∃ bf o2, af = some ⟨bf, o2, none⟩ ∧ ∀ V, Below B.heap.size B V → ∃ ac cc, V.cell? ⟨bf, o2 + z, none⟩ = some (.slice ac L[z].length cc) ∧ L[z].length ≤ cc ∧ RdI .i64 V ac L[z]) := by
    obtain ⟨bf, o2, rfl, hc⟩ := hr (by omega)
    refine ⟨bf, o2, rfl, fun V hb => ?_⟩
    obtain ⟨u, hu, ac, cc, rfl, hcc, hrc, _⟩ := hc z hzl
    exact ⟨ac, cc, cell_later (chain HB0.out hb) hu, hcc, hrc.later (chain HB0.out hb)⟩
  obtain ⟨bf, o2, rfl, hFT⟩ := HFT.out
  have HFV : Hid (∀ V, Below B.heap.size B V → ∃ ac cc, V.cell? ⟨bf, o2 + z, none⟩ = some (.slice ac L[z].length cc) ∧ L[z].length ≤ cc ∧ RdI .i64 V ac L[z]) := hFT
  have kz0 : (0 : Int) ≤ (z : Int) := by omega
  have kz1 : (z : Int) < (nf : Int) := by omega
  clear HFT hFT hr
  have HCO : Hid (colsF L (z : Int) = L[z]) := by show _ = _; unfold colsF; rw [Int.toNat_natCast, List.getElem?_eq_getElem hzl, Option.getD_some]
  have hm65 : L[z].length ≤ 65536 := hv _ (List.getElem_mem hzl)
  generalize L[z] = cols at *
  clear hzl hz
  have m1 : (kind == 1) = false := by simpa using hk.1
  have m2 : (kind == 2) = false := by simpa using hk.2.1
  have m3 : (kind == 3) = false := by simpa using hk.2.2
  have m4 : decide (kind = 1) = false := m1
  have m5 : decide (kind = 2) = false := m2
  have m6 : decide (kind = 3) = false := m3
  generalize hnd : deps.length = nd at *
  generalize hnv : vals.length = nv at *
  have HNV : Hid (vals.length = nv) := hnv
  clear hnv
  generalize dots.length = no at *
  generalize atD deps dp = at0 at *
  have hb1 : inF 0 (n - 1) dp = true → 0 ≤ dp ∧ dp ≤ n - 1 := fun h => of_decide_eq_true h
  have hb2 : inF 1 1073741824 dn = true → 1 ≤ dn ∧ dn ≤ 1073741824 := fun h => of_decide_eq_true h
  generalize inF 0 (n - 1) dp = b1 at *
  generalize inF 1 1073741824 dn = b2 at *
  generalize okS ⟨sp, sl, sq⟩ = b6 at *
  generalize inF 0 ((nf : Int) - 1) (z : Int) = b8 at *
  generalize keyF key = b9 at *
  generalize chkD deps = ck at *
  obtain ⟨f0, f1, f2, f3, f4, f5, f6, f7, f8, f9, f10, f11⟩ := cellsO_at HK.out
  obtain rfl : b1 = true := h1
  obtain ⟨q, rfl⟩ : ∃ q : Nat, dp = q := ⟨dp.toNat, by have := hb1 rfl; omega⟩
  obtain rfl : b2 = true := h2
  have w2 : IntKind.i64.wrap (dn - 1) = dn - 1 := by have := hb2 rfl; rw [IntKind.wrap_i64]; omega
  have c3 := of_decide_eq_true h3
  have q3 : ((nd : Int) != n) = false := by simpa using c3
  have C3 : Hid ((nd : Int) = n) := c3
  clear c3 h3
  have c4 := of_decide_eq_true h4
  have q4 : (ck != 0) = false := by simpa using c4
  clear c4 h4
  have hq : q < nd := by have := hb1 rfl; have := C3.out; omega
  obtain ⟨bd, od, rfl, fd⟩ := HAT.out q rfl hq
  have k0 : (0 : Int) ≤ (q : Int) := by omega
  have k1 : (q : Int) < (nd : Int) := by omega
  have c5 := of_decide_eq_true h5
  have q5 : (at0 != dn - 1) = false := by simpa using c5
  clear c5 h5
  obtain rfl : b6 = true := h6
  have c7 := of_decide_eq_true h7
  have q7 : (sq != (q : Int)) = false := by simpa using c7
  clear c7 h7
  obtain rfl : b8 = true := h8
  obtain rfl : b9 = true := h9
  have HP : ∀ a b : World, Below a.heap.size a b → (fun w' : World => (w'.cell? ⟨w.heap.size, 0, none⟩ = some (.int .i64 (q : Int)) ∧ w'.cell? ⟨w.heap.size, 1, none⟩ = some (.int .i64 dn) ∧ w'.cell? ⟨w.heap.size, 2, none⟩ = some (.slice (some ⟨bd, od, none⟩) nd dc) ∧ w'.cell? ⟨w.heap.size, 3, none⟩ = some (.int .i64 sp) ∧ w'.cell? ⟨w.heap.size, 4, none⟩ = some (.int .i64 sl) ∧ w'.cell? ⟨w.heap.size, 5, none⟩ = some (.int .i64 sq) ∧ w'.cell? ⟨w.heap.size, 6, none⟩ = some (.int .i64 kind) ∧ w'.cell? ⟨w.heap.size, 7, none⟩ = some (.int .i64 (z : Int)) ∧ w'.cell? ⟨w.heap.size, 8, none⟩ = some (.string key) ∧ w'.cell? ⟨w.heap.size, 9, none⟩ = some (.int .i64 col) ∧ w'.cell? ⟨w.heap.size, 10, none⟩ = some (.slice va nv vc) ∧ w'.cell? ⟨w.heap.size, 11, none⟩ = some (.slice oa no oc) ∧ w'.cell? ⟨bd, od + q, none⟩ = some (.int .i64 at0))) a → (fun w' : World => (w'.cell? ⟨w.heap.size, 0, none⟩ = some (.int .i64 (q : Int)) ∧ w'.cell? ⟨w.heap.size, 1, none⟩ = some (.int .i64 dn) ∧ w'.cell? ⟨w.heap.size, 2, none⟩ = some (.slice (some ⟨bd, od, none⟩) nd dc) ∧ w'.cell? ⟨w.heap.size, 3, none⟩ = some (.int .i64 sp) ∧ w'.cell? ⟨w.heap.size, 4, none⟩ = some (.int .i64 sl) ∧ w'.cell? ⟨w.heap.size, 5, none⟩ = some (.int .i64 sq) ∧ w'.cell? ⟨w.heap.size, 6, none⟩ = some (.int .i64 kind) ∧ w'.cell? ⟨w.heap.size, 7, none⟩ = some (.int .i64 (z : Int)) ∧ w'.cell? ⟨w.heap.size, 8, none⟩ = some (.string key) ∧ w'.cell? ⟨w.heap.size, 9, none⟩ = some (.int .i64 col) ∧ w'.cell? ⟨w.heap.size, 10, none⟩ = some (.slice va nv vc) ∧ w'.cell? ⟨w.heap.size, 11, none⟩ = some (.slice oa no oc) ∧ w'.cell? ⟨bd, od + q, none⟩ = some (.int .i64 at0))) b := fun a b hb h => ⟨cell_later hb h.1, cell_later hb h.2.1, cell_later hb h.2.2.1, cell_later hb h.2.2.2.1, cell_later hb h.2.2.2.2.1, cell_later hb h.2.2.2.2.2.1, cell_later hb h.2.2.2.2.2.2.1, cell_later hb h.2.2.2.2.2.2.2.1, cell_later hb h.2.2.2.2.2.2.2.2.1, cell_later hb h.2.2.2.2.2.2.2.2.2.1, cell_later hb h.2.2.2.2.2.2.2.2.2.2.1, cell_later hb h.2.2.2.2.2.2.2.2.2.2.2.1, cell_later hb h.2.2.2.2.2.2.2.2.2.2.2.2⟩
  have HS := (And.intro (show (B.cell? ⟨w.heap.size, 0, none⟩ = some (.int .i64 (q : Int)) ∧ B.cell? ⟨w.heap.size, 1, none⟩ = some (.int .i64 dn) ∧ B.cell? ⟨w.heap.size, 2, none⟩ = some (.slice (some ⟨bd, od, none⟩) nd dc) ∧ B.cell? ⟨w.heap.size, 3, none⟩ = some (.int .i64 sp) ∧ B.cell? ⟨w.heap.size, 4, none⟩ = some (.int .i64 sl) ∧ B.cell? ⟨w.heap.size, 5, none⟩ = some (.int .i64 sq) ∧ B.cell? ⟨w.heap.size, 6, none⟩ = some (.int .i64 kind) ∧ B.cell? ⟨w.heap.size, 7, none⟩ = some (.int .i64 (z : Int)) ∧ B.cell? ⟨w.heap.size, 8, none⟩ = some (.string key) ∧ B.cell? ⟨w.heap.size, 9, none⟩ = some (.int .i64 col) ∧ B.cell? ⟨w.heap.size, 10, none⟩ = some (.slice va nv vc) ∧ B.cell? ⟨w.heap.size, 11, none⟩ = some (.slice oa no oc) ∧ B.cell? ⟨bd, od + q, none⟩ = some (.int .i64 at0)) from ⟨f0, f1, f2, f3, f4, f5, f6, f7, f8, f9, f10, f11, fd⟩) (show Hid (Below B.heap.size B B) from Below.refl _ _))
  clear HS9
  go_enter Try.func53, Try.ntmps53
  go_wp2_with fail
  rw [← HBB.out]
  refine wp_region_held_drew (S := (fun w' => (w'.cell? ⟨w.heap.size, 0, none⟩ = some (.int .i64 (q : Int)) ∧ w'.cell? ⟨w.heap.size, 1, none⟩ = some (.int .i64 dn) ∧ w'.cell? ⟨w.heap.size, 2, none⟩ = some (.slice (some ⟨bd, od, none⟩) nd dc) ∧ w'.cell? ⟨w.heap.size, 3, none⟩ = some (.int .i64 sp) ∧ w'.cell? ⟨w.heap.size, 4, none⟩ = some (.int .i64 sl) ∧ w'.cell? ⟨w.heap.size, 5, none⟩ = some (.int .i64 sq) ∧ w'.cell? ⟨w.heap.size, 6, none⟩ = some (.int .i64 kind) ∧ w'.cell? ⟨w.heap.size, 7, none⟩ = some (.int .i64 (z : Int)) ∧ w'.cell? ⟨w.heap.size, 8, none⟩ = some (.string key) ∧ w'.cell? ⟨w.heap.size, 9, none⟩ = some (.int .i64 col) ∧ w'.cell? ⟨w.heap.size, 10, none⟩ = some (.slice va nv vc) ∧ w'.cell? ⟨w.heap.size, 11, none⟩ = some (.slice oa no oc) ∧ w'.cell? ⟨bd, od + q, none⟩ = some (.int .i64 at0)) ∧ Hid (Below B.heap.size B w'))) (by kernel_rfl) (keepH (P := fun w' : World => (w'.cell? ⟨w.heap.size, 0, none⟩ = some (.int .i64 (q : Int)) ∧ w'.cell? ⟨w.heap.size, 1, none⟩ = some (.int .i64 dn) ∧ w'.cell? ⟨w.heap.size, 2, none⟩ = some (.slice (some ⟨bd, od, none⟩) nd dc) ∧ w'.cell? ⟨w.heap.size, 3, none⟩ = some (.int .i64 sp) ∧ w'.cell? ⟨w.heap.size, 4, none⟩ = some (.int .i64 sl) ∧ w'.cell? ⟨w.heap.size, 5, none⟩ = some (.int .i64 sq) ∧ w'.cell? ⟨w.heap.size, 6, none⟩ = some (.int .i64 kind) ∧ w'.cell? ⟨w.heap.size, 7, none⟩ = some (.int .i64 (z : Int)) ∧ w'.cell? ⟨w.heap.size, 8, none⟩ = some (.string key) ∧ w'.cell? ⟨w.heap.size, 9, none⟩ = some (.int .i64 col) ∧ w'.cell? ⟨w.heap.size, 10, none⟩ = some (.slice va nv vc) ∧ w'.cell? ⟨w.heap.size, 11, none⟩ = some (.slice oa no oc) ∧ w'.cell? ⟨bd, od + q, none⟩ = some (.int .i64 at0))) HP (Below.refl _ _).drew HS) (fun hHeld => ?_)
  refine heldTake (v := ?_) 0 10 rfl rfl (by kernel_rfl) (by kernel_rfl) (by kernel_rfl) (fun _ _ _ h => h) (by rfl) (fun w hSw => ?_) (by assumption) ?_
  rotate_left
  · (try dsimp only at hSw); first | (go_simp; done) | (go_simp; with_reducible rfl)
  simp only [List.setIfInBounds_toArray, List.set_cons_zero, List.set_cons_succ]
  refine heldTake (v := ?_) 1 11 rfl rfl (by kernel_rfl) (by kernel_rfl) (by kernel_rfl) (fun _ _ _ h => h) (by rfl) (fun w hSw => ?_) (by assumption) ?_
  rotate_left
  · (try dsimp only at hSw); first | (go_simp; done) | (go_simp; with_reducible rfl)
  simp only [List.setIfInBounds_toArray, List.set_cons_zero, List.set_cons_succ]
  refine heldTake (v := ?_) 2 12 rfl rfl (by kernel_rfl) (by kernel_rfl) (by kernel_rfl) (fun _ _ _ h => h) (by rfl) (fun w hSw => ?_) (by assumption) ?_
  rotate_left
  · (try dsimp only at hSw); first | (go_simp; done) | (go_simp; with_reducible rfl)
  simp only [List.setIfInBounds_toArray, List.set_cons_zero, List.set_cons_succ]
  refine heldTake (v := ?_) 3 13 rfl rfl (by kernel_rfl) (by kernel_rfl) (by kernel_rfl) (fun _ _ _ h => h) (by rfl) (fun w hSw => ?_) (by assumption) ?_
  rotate_left
  · (try dsimp only at hSw); first | (go_simp; done) | (go_simp; with_reducible rfl)
  simp only [List.setIfInBounds_toArray, List.set_cons_zero, List.set_cons_succ]
  refine heldTake (v := ?_) 4 14 rfl rfl (by kernel_rfl) (by kernel_rfl) (by kernel_rfl) (fun _ _ _ h => h) (by rfl) (fun w hSw => ?_) (by assumption) ?_
  rotate_left
  · (try dsimp only at hSw); first | (go_simp; done) | (go_simp; with_reducible rfl)
  simp only [List.setIfInBounds_toArray, List.set_cons_zero, List.set_cons_succ]
  refine heldOne 5 rfl (by kernel_rfl) (by rfl) (fun K2 hK => ?_)
  go_simp
  refine (D1 _).mono ?_
  rintro e wz ⟨rfl, hw⟩
  simp only []
  subst hw
  refine hK.out _ _ ?_ (fun hHeld => ?_)
  · (first | exact hHeld | assumption)
  clear hK K2
  try simp only [List.setIfInBounds_toArray, List.set_cons_zero, List.set_cons_succ]
  refine heldTake (v := ?_) 6 16 rfl rfl (by kernel_rfl) (by kernel_rfl) (by kernel_rfl) (fun _ _ _ h => h) (by rfl) (fun w hSw => ?_) (by assumption) ?_
  rotate_left
  · (try dsimp only at hSw); first | (go_simp; done) | (go_simp; with_reducible rfl)
  simp only [List.setIfInBounds_toArray, List.set_cons_zero, List.set_cons_succ]
  refine heldTake (v := ?_) 7 17 rfl rfl (by kernel_rfl) (by kernel_rfl) (by kernel_rfl) (fun _ _ _ h => h) (by rfl) (fun w hSw => ?_) (by assumption) ?_
  rotate_left
  · (try dsimp only at hSw); first | (go_simp; done) | (go_simp; with_reducible rfl)
  simp only [List.setIfInBounds_toArray, List.set_cons_zero, List.set_cons_succ]
  refine heldTake (v := ?_) 8 18 rfl rfl (by kernel_rfl) (by kernel_rfl) (by kernel_rfl) (fun _ _ _ h => h) (by rfl) (fun w hSw => ?_) (by assumption) ?_
  rotate_left
  · (try dsimp only at hSw); first | (go_simp; done) | (go_simp; with_reducible rfl)
  simp only [List.setIfInBounds_toArray, List.set_cons_zero, List.set_cons_succ]
  refine heldTake (v := ?_) 9 19 rfl rfl (by kernel_rfl) (by kernel_rfl) (by kernel_rfl) (fun _ _ _ h => h) (by rfl) (fun w hSw => ?_) (by assumption) ?_
  rotate_left
  · (try dsimp only at hSw); first | (go_simp; done) | (go_simp; with_reducible rfl)
  simp only [List.setIfInBounds_toArray, List.set_cons_zero, List.set_cons_succ]
  refine heldTake (v := ?_) 10 20 rfl rfl (by kernel_rfl) (by kernel_rfl) (by kernel_rfl) (fun _ _ _ h => h) (by rfl) (fun w hSw => ?_) (by assumption) ?_
  rotate_left
  · (try dsimp only at hSw); first | (go_simp; done) | (go_simp; with_reducible rfl)
  simp only [List.setIfInBounds_toArray, List.set_cons_zero, List.set_cons_succ]
  refine heldOne 11 rfl (by kernel_rfl) (by rfl) (fun K2 hK => ?_)
  go_simp
  refine (D2 _).mono ?_
  rintro e wz ⟨rfl, hw⟩
  simp only []
  subst hw
  refine hK.out _ _ ?_ (fun hHeld => ?_)
  · (first | exact hHeld | assumption)
  clear hK K2
  try simp only [List.setIfInBounds_toArray, List.set_cons_zero, List.set_cons_succ]
  refine heldTake (v := ?_) 12 22 rfl rfl (by kernel_rfl) (by kernel_rfl) (by kernel_rfl) (fun _ _ _ h => h) (by rfl) (fun w hSw => ?_) (by assumption) ?_
  rotate_left
  · (try dsimp only at hSw); first | (go_simp; done) | (go_simp; with_reducible rfl)
  simp only [List.setIfInBounds_toArray, List.set_cons_zero, List.set_cons_succ]
  refine heldTake (v := ?_) 13 23 rfl rfl (by kernel_rfl) (by kernel_rfl) (by kernel_rfl) (fun _ _ _ h => h) (by rfl) (fun w hSw => ?_) (by assumption) ?_
  rotate_left
  · (try dsimp only at hSw); first | (go_simp; done) | (go_simp; with_reducible rfl)
  simp only [List.setIfInBounds_toArray, List.set_cons_zero, List.set_cons_succ]
  refine heldTake (v := ?_) 14 24 rfl rfl (by kernel_rfl) (by kernel_rfl) (by kernel_rfl) (fun _ _ _ h => h) (by rfl) (fun w hSw => ?_) (by assumption) ?_
  rotate_left
  · (try dsimp only at hSw); first | (go_simp; done) | (go_simp; with_reducible rfl)
  simp only [List.setIfInBounds_toArray, List.set_cons_zero, List.set_cons_succ]
  refine heldTake (v := ?_) 15 25 rfl rfl (by kernel_rfl) (by kernel_rfl) (by kernel_rfl) (fun _ _ _ h => h) (by rfl) (fun w hSw => ?_) (by assumption) ?_
  rotate_left
  · (try dsimp only at hSw); first | (go_simp; done) | (go_simp; with_reducible rfl)
  simp only [List.setIfInBounds_toArray, List.set_cons_zero, List.set_cons_succ]
  refine heldTake (v := ?_) 16 26 rfl rfl (by kernel_rfl) (by kernel_rfl) (by kernel_rfl) (fun _ _ _ h => h) (by rfl) (fun w hSw => ?_) (by assumption) ?_
  rotate_left
  · (try dsimp only at hSw); first | (go_simp; done) | (go_simp; with_reducible rfl)
  simp only [List.setIfInBounds_toArray, List.set_cons_zero, List.set_cons_succ]
  refine heldTake (v := ?_) 17 27 rfl rfl (by kernel_rfl) (by kernel_rfl) (by kernel_rfl) (fun _ _ _ h => h) (by rfl) (fun w hSw => ?_) (by assumption) ?_
  rotate_left
  · (try dsimp only at hSw); first | (go_simp; done) | (go_simp; with_reducible rfl)
  simp only [List.setIfInBounds_toArray, List.set_cons_zero, List.set_cons_succ]
  refine heldTake (v := ?_) 18 28 rfl rfl (by kernel_rfl) (by kernel_rfl) (by kernel_rfl) (fun _ _ _ h => h) (by rfl) (fun w hSw => ?_) (by assumption) ?_
  rotate_left
  · (try dsimp only at hSw); first | (go_simp; done) | (go_simp; with_reducible rfl)
  simp only [List.setIfInBounds_toArray, List.set_cons_zero, List.set_cons_succ]
  refine heldTake (v := ?_) 19 29 rfl rfl (by kernel_rfl) (by kernel_rfl) (by kernel_rfl) (fun _ _ _ h => h) (by rfl) (fun w hSw => ?_) (by assumption) ?_
  rotate_left
  · (try dsimp only at hSw); first | (go_simp; done) | (go_simp; with_reducible rfl)
  simp only [List.setIfInBounds_toArray, List.set_cons_zero, List.set_cons_succ]
  refine heldTake (v := ?_) 20 30 rfl rfl (by kernel_rfl) (by kernel_rfl) (by kernel_rfl) (fun _ _ _ h => h) (by rfl) (fun w hSw => ?_) (by assumption) ?_
  rotate_left
  · (try dsimp only at hSw); first | (go_simp; done) | (go_simp; with_reducible rfl)
  simp only [List.setIfInBounds_toArray, List.set_cons_zero, List.set_cons_succ]
  refine heldTake (v := ?_) 21 31 rfl rfl (by kernel_rfl) (by kernel_rfl) (by kernel_rfl) (fun _ _ _ h => h) (by rfl) (fun w hSw => ?_) (by assumption) ?_
  rotate_left
  · (try dsimp only at hSw); first | (go_simp; done) | (go_simp; with_reducible rfl)
  simp only [List.setIfInBounds_toArray, List.set_cons_zero, List.set_cons_succ]
  refine heldTake (v := ?_) 22 32 rfl rfl (by kernel_rfl) (by kernel_rfl) (by kernel_rfl) (fun _ _ _ h => h) (by rfl) (fun w hSw => ?_) (by assumption) ?_
  rotate_left
  · (try dsimp only at hSw); first | (go_simp; done) | (go_simp; with_reducible rfl)
  simp only [List.setIfInBounds_toArray, List.set_cons_zero, List.set_cons_succ]
  refine heldTake (v := ?_) 23 33 rfl rfl (by kernel_rfl) (by kernel_rfl) (by kernel_rfl) (fun _ _ _ h => h) (by rfl) (fun w hSw => ?_) (by assumption) ?_
  rotate_left
  · (try dsimp only at hSw); first | (go_simp; done) | (go_simp; with_reducible rfl)
  simp only [List.setIfInBounds_toArray, List.set_cons_zero, List.set_cons_succ]
  refine heldOne 24 rfl (by kernel_rfl) (by rfl) (fun K2 hK => ?_)
  go_simp
  refine (D4 _ hHeld.2.out).mono ?_
  rintro e wz ⟨rfl, hw⟩
  simp only []
  subst hw
  refine hK.out _ _ ?_ (fun hHeld => ?_)
  · (first | exact hHeld | assumption)
  clear hK K2
  try simp only [List.setIfInBounds_toArray, List.set_cons_zero, List.set_cons_succ]
  refine heldTake (v := ?_) 25 35 rfl rfl (by kernel_rfl) (by kernel_rfl) (by kernel_rfl) (fun _ _ _ h => h) (by rfl) (fun w hSw => ?_) (by assumption) ?_
  rotate_left
  · (try dsimp only at hSw); first | (go_simp; done) | (go_simp; with_reducible rfl)
  simp only [List.setIfInBounds_toArray, List.set_cons_zero, List.set_cons_succ]
  refine heldTake (v := ?_) 26 36 rfl rfl (by kernel_rfl) (by kernel_rfl) (by kernel_rfl) (fun _ _ _ h => h) (by rfl) (fun w hSw => ?_) (by assumption) ?_
  rotate_left
  · (try dsimp only at hSw); first | (go_simp; done) | (go_simp; with_reducible rfl)
  simp only [List.setIfInBounds_toArray, List.set_cons_zero, List.set_cons_succ]
  refine heldTake (v := ?_) 27 37 rfl rfl (by kernel_rfl) (by kernel_rfl) (by kernel_rfl) (fun _ _ _ h => h) (by rfl) (fun w hSw => ?_) (by assumption) ?_
  rotate_left
  · (try dsimp only at hSw); first | (go_simp; done) | (go_simp; with_reducible rfl)
  simp only [List.setIfInBounds_toArray, List.set_cons_zero, List.set_cons_succ]
  refine heldTake (v := ?_) 28 38 rfl rfl (by kernel_rfl) (by kernel_rfl) (by kernel_rfl) (fun _ _ _ h => h) (by rfl) (fun w hSw => ?_) (by assumption) ?_
  rotate_left
  · (try dsimp only at hSw); first | (go_simp; done) | (go_simp; with_reducible rfl)
  simp only [List.setIfInBounds_toArray, List.set_cons_zero, List.set_cons_succ]
  refine heldTake (v := ?_) 29 39 rfl rfl (by kernel_rfl) (by kernel_rfl) (by kernel_rfl) (fun _ _ _ h => h) (by rfl) (fun w hSw => ?_) (by assumption) ?_
  rotate_left
  · (try dsimp only at hSw); first | (go_simp; done) | (go_simp; with_reducible rfl)
  simp only [List.setIfInBounds_toArray, List.set_cons_zero, List.set_cons_succ]
  refine heldTake (v := ?_) 30 40 rfl rfl (by kernel_rfl) (by kernel_rfl) (by kernel_rfl) (fun _ _ _ h => h) (by rfl) (fun w hSw => ?_) (by assumption) ?_
  rotate_left
  · (try dsimp only at hSw); first | (go_simp; done) | (go_simp; with_reducible rfl)
  simp only [List.setIfInBounds_toArray, List.set_cons_zero, List.set_cons_succ]
  refine heldTake (v := ?_) 31 41 rfl rfl (by kernel_rfl) (by kernel_rfl) (by kernel_rfl) (fun _ _ _ h => h) (by rfl) (fun w hSw => ?_) (by assumption) ?_
  rotate_left
  · (try dsimp only at hSw); first | (go_simp; done) | (go_simp; with_reducible rfl)
  simp only [List.setIfInBounds_toArray, List.set_cons_zero, List.set_cons_succ]
  refine heldTake (v := ?_) 32 42 rfl rfl (by kernel_rfl) (by kernel_rfl) (by kernel_rfl) (fun _ _ _ h => h) (by rfl) (fun w hSw => ?_) (by assumption) ?_
  rotate_left
  · (try dsimp only at hSw); first | (go_simp; done) | (go_simp; with_reducible rfl)
  simp only [List.setIfInBounds_toArray, List.set_cons_zero, List.set_cons_succ]
  refine heldTake (v := ?_) 33 43 rfl rfl (by kernel_rfl) (by kernel_rfl) (by kernel_rfl) (fun _ _ _ h => h) (by rfl) (fun w hSw => ?_) (by assumption) ?_
  rotate_left
  · (try dsimp only at hSw); first | (go_simp; done) | (go_simp; with_reducible rfl)
  simp only [List.setIfInBounds_toArray, List.set_cons_zero, List.set_cons_succ]
  refine heldTake (v := ?_) 34 44 rfl rfl (by kernel_rfl) (by kernel_rfl) (by kernel_rfl) (fun _ _ _ h => h) (by rfl) (fun w hSw => ?_) (by assumption) ?_
  rotate_left
  · (try dsimp only at hSw); first | (go_simp; done) | (go_simp; with_reducible rfl)
  simp only [List.setIfInBounds_toArray, List.set_cons_zero, List.set_cons_succ]
  refine heldTake (v := ?_) 35 45 rfl rfl (by kernel_rfl) (by kernel_rfl) (by kernel_rfl) (fun _ _ _ h => h) (by rfl) (fun w hSw => ?_) (by assumption) ?_
  rotate_left
  · (try dsimp only at hSw); first | (go_simp; done) | (go_simp; with_reducible rfl)
  simp only [List.setIfInBounds_toArray, List.set_cons_zero, List.set_cons_succ]
  refine heldTake (v := ?_) 36 46 rfl rfl (by kernel_rfl) (by kernel_rfl) (by kernel_rfl) (fun _ _ _ h => h) (by rfl) (fun w hSw => ?_) (by assumption) ?_
  rotate_left
  · (try dsimp only at hSw); first | (go_simp; done) | (go_simp; with_reducible rfl)
  simp only [List.setIfInBounds_toArray, List.set_cons_zero, List.set_cons_succ]
  refine heldTake (v := ?_) 37 47 rfl rfl (by kernel_rfl) (by kernel_rfl) (by kernel_rfl) (fun _ _ _ h => h) (by rfl) (fun w hSw => ?_) (by assumption) ?_
  rotate_left
  · (try dsimp only at hSw); first | (go_simp; done) | (go_simp; with_reducible rfl)
  simp only [List.setIfInBounds_toArray, List.set_cons_zero, List.set_cons_succ]
  refine heldTake (v := ?_) 38 48 rfl rfl (by kernel_rfl) (by kernel_rfl) (by kernel_rfl) (fun _ _ _ h => h) (by rfl) (fun w hSw => ?_) (by assumption) ?_
  rotate_left
  · (try dsimp only at hSw); first | (go_simp; done) | (go_simp; with_reducible rfl)
  simp only [List.setIfInBounds_toArray, List.set_cons_zero, List.set_cons_succ]
  refine heldTake (v := ?_) 39 49 rfl rfl (by kernel_rfl) (by kernel_rfl) (by kernel_rfl) (fun _ _ _ h => h) (by rfl) (fun w hSw => ?_) (by assumption) ?_
  rotate_left
  · (try dsimp only at hSw); first | (go_simp; done) | (go_simp; with_reducible rfl)
  simp only [List.setIfInBounds_toArray, List.set_cons_zero, List.set_cons_succ]
  refine heldTake (v := ?_) 40 50 rfl rfl (by kernel_rfl) (by kernel_rfl) (by kernel_rfl) (fun _ _ _ h => h) (by rfl) (fun w hSw => ?_) (by assumption) ?_
  rotate_left
  · (try dsimp only at hSw); first | (go_simp; done) | (go_simp; with_reducible rfl)
  simp only [List.setIfInBounds_toArray, List.set_cons_zero, List.set_cons_succ]
  refine heldTake (v := ?_) 41 51 rfl rfl (by kernel_rfl) (by kernel_rfl) (by kernel_rfl) (fun _ _ _ h => h) (by rfl) (fun w hSw => ?_) (by assumption) ?_
  rotate_left
  · (try dsimp only at hSw); first | (go_simp; done) | (go_simp; with_reducible rfl)
  simp only [List.setIfInBounds_toArray, List.set_cons_zero, List.set_cons_succ]
  refine heldTake (v := ?_) 42 52 rfl rfl (by kernel_rfl) (by kernel_rfl) (by kernel_rfl) (fun _ _ _ h => h) (by rfl) (fun w hSw => ?_) (by assumption) ?_
  rotate_left
  · (try dsimp only at hSw); first | (go_simp; done) | (go_simp; with_reducible rfl)
  simp only [List.setIfInBounds_toArray, List.set_cons_zero, List.set_cons_succ]
  refine heldTake (v := ?_) 43 53 rfl rfl (by kernel_rfl) (by kernel_rfl) (by kernel_rfl) (fun _ _ _ h => h) (by rfl) (fun w hSw => ?_) (by assumption) ?_
  rotate_left
  · (try dsimp only at hSw); first | (go_simp; done) | (go_simp; with_reducible rfl)
  simp only [List.setIfInBounds_toArray, List.set_cons_zero, List.set_cons_succ]
  refine heldOne 44 rfl (by kernel_rfl) (by rfl) (fun K2 hK => ?_)
  go_simp
  refine (D6 _).mono ?_
  rintro e wz ⟨rfl, hb⟩
  simp only []
  refine hK.out _ _ ?_ (fun hHeld => ?_)
  · exact keepH (P := fun w' : World => (w'.cell? ⟨w.heap.size, 0, none⟩ = some (.int .i64 (q : Int)) ∧ w'.cell? ⟨w.heap.size, 1, none⟩ = some (.int .i64 dn) ∧ w'.cell? ⟨w.heap.size, 2, none⟩ = some (.slice (some ⟨bd, od, none⟩) nd dc) ∧ w'.cell? ⟨w.heap.size, 3, none⟩ = some (.int .i64 sp) ∧ w'.cell? ⟨w.heap.size, 4, none⟩ = some (.int .i64 sl) ∧ w'.cell? ⟨w.heap.size, 5, none⟩ = some (.int .i64 sq) ∧ w'.cell? ⟨w.heap.size, 6, none⟩ = some (.int .i64 kind) ∧ w'.cell? ⟨w.heap.size, 7, none⟩ = some (.int .i64 (z : Int)) ∧ w'.cell? ⟨w.heap.size, 8, none⟩ = some (.string key) ∧ w'.cell? ⟨w.heap.size, 9, none⟩ = some (.int .i64 col) ∧ w'.cell? ⟨w.heap.size, 10, none⟩ = some (.slice va nv vc) ∧ w'.cell? ⟨w.heap.size, 11, none⟩ = some (.slice oa no oc) ∧ w'.cell? ⟨bd, od + q, none⟩ = some (.int .i64 at0))) HP hb (by assumption)
  clear hK K2
  try simp only [List.setIfInBounds_toArray, List.set_cons_zero, List.set_cons_succ]
  refine heldTake (v := ?_) 45 55 rfl rfl (by kernel_rfl) (by kernel_rfl) (by kernel_rfl) (fun _ _ _ h => h) (by rfl) (fun w hSw => ?_) (by assumption) ?_
  rotate_left
  · (try dsimp only at hSw); first | (go_simp; done) | (go_simp; with_reducible rfl)
  simp only [List.setIfInBounds_toArray, List.set_cons_zero, List.set_cons_succ]
  refine heldTake (v := ?_) 46 56 rfl rfl (by kernel_rfl) (by kernel_rfl) (by kernel_rfl) (fun _ _ _ h => h) (by rfl) (fun w hSw => ?_) (by assumption) ?_
  rotate_left
  · (try dsimp only at hSw); first | (go_simp; done) | (go_simp; with_reducible rfl)
  simp only [List.setIfInBounds_toArray, List.set_cons_zero, List.set_cons_succ]
  refine heldTake (v := ?_) 47 57 rfl rfl (by kernel_rfl) (by kernel_rfl) (by kernel_rfl) (fun _ _ _ h => h) (by rfl) (fun w hSw => ?_) (by assumption) ?_
  rotate_left
  · (try dsimp only at hSw); first | (go_simp; done) | (go_simp; with_reducible rfl)
  simp only [List.setIfInBounds_toArray, List.set_cons_zero, List.set_cons_succ]
  refine heldTake (v := ?_) 48 58 rfl rfl (by kernel_rfl) (by kernel_rfl) (by kernel_rfl) (fun _ _ _ h => h) (by rfl) (fun w hSw => ?_) (by assumption) ?_
  rotate_left
  · (try dsimp only at hSw); first | (go_simp; done) | (go_simp; with_reducible rfl)
  simp only [List.setIfInBounds_toArray, List.set_cons_zero, List.set_cons_succ]
  refine heldTake (v := ?_) 49 59 rfl rfl (by kernel_rfl) (by kernel_rfl) (by kernel_rfl) (fun _ _ _ h => h) (by rfl) (fun w hSw => ?_) (by assumption) ?_
  rotate_left
  · (try dsimp only at hSw); first | (go_simp; done) | (go_simp; with_reducible rfl)
  simp only [List.setIfInBounds_toArray, List.set_cons_zero, List.set_cons_succ]
  refine heldTake (v := ?_) 50 60 rfl rfl (by kernel_rfl) (by kernel_rfl) (by kernel_rfl) (fun _ _ _ h => h) (by rfl) (fun w hSw => ?_) (by assumption) ?_
  rotate_left
  · (try dsimp only at hSw); first | (go_simp; done) | (go_simp; with_reducible rfl)
  simp only [List.setIfInBounds_toArray, List.set_cons_zero, List.set_cons_succ]
  refine heldTake (v := ?_) 51 61 rfl rfl (by kernel_rfl) (by kernel_rfl) (by kernel_rfl) (fun _ _ _ h => h) (by rfl) (fun w hSw => ?_) (by assumption) ?_
  rotate_left
  · (try dsimp only at hSw); first | (go_simp; done) | (go_simp; with_reducible rfl)
  simp only [List.setIfInBounds_toArray, List.set_cons_zero, List.set_cons_succ]
  refine heldTake (v := ?_) 52 62 rfl rfl (by kernel_rfl) (by kernel_rfl) (by kernel_rfl) (fun _ _ _ h => h) (by rfl) (fun w hSw => ?_) (by assumption) ?_
  rotate_left
  · (try dsimp only at hSw); first | (go_simp; done) | (go_simp; with_reducible rfl)
  simp only [List.setIfInBounds_toArray, List.set_cons_zero, List.set_cons_succ]
  refine heldTake (v := ?_) 53 63 rfl rfl (by kernel_rfl) (by kernel_rfl) (by kernel_rfl) (fun _ _ _ h => h) (by rfl) (fun w hSw => ?_) (by assumption) ?_
  rotate_left
  · (try dsimp only at hSw); first | (go_simp; done) | (go_simp; with_reducible rfl)
  simp only [List.setIfInBounds_toArray, List.set_cons_zero, List.set_cons_succ]
  refine heldTake (v := ?_) 54 64 rfl rfl (by kernel_rfl) (by kernel_rfl) (by kernel_rfl) (fun _ _ _ h => h) (by rfl) (fun w hSw => ?_) (by assumption) ?_
  rotate_left
  · (try dsimp only at hSw); first | (go_simp; done) | (go_simp; with_reducible rfl)
  simp only [List.setIfInBounds_toArray, List.set_cons_zero, List.set_cons_succ]
  refine heldTake (v := ?_) 55 65 rfl rfl (by kernel_rfl) (by kernel_rfl) (by kernel_rfl) (fun _ _ _ h => h) (by rfl) (fun w hSw => ?_) (by assumption) ?_
  rotate_left
  · (try dsimp only at hSw); first | (go_simp; done) | (go_simp; with_reducible rfl)
  simp only [List.setIfInBounds_toArray, List.set_cons_zero, List.set_cons_succ]
  refine heldTake (v := ?_) 56 66 rfl rfl (by kernel_rfl) (by kernel_rfl) (by kernel_rfl) (fun _ _ _ h => h) (by rfl) (fun w hSw => ?_) (by assumption) ?_
  rotate_left
  · (try dsimp only at hSw); first | (go_simp; done) | (go_simp; with_reducible rfl)
  simp only [List.setIfInBounds_toArray, List.set_cons_zero, List.set_cons_succ]
  refine heldTake (v := ?_) 57 67 rfl rfl (by kernel_rfl) (by kernel_rfl) (by kernel_rfl) (fun _ _ _ h => h) (by rfl) (fun w hSw => ?_) (by assumption) ?_
  rotate_left
  · (try dsimp only at hSw); first | (go_simp; done) | (go_simp; with_reducible rfl)
  simp only [List.setIfInBounds_toArray, List.set_cons_zero, List.set_cons_succ]
  refine heldTake (v := ?_) 58 68 rfl rfl (by kernel_rfl) (by kernel_rfl) (by kernel_rfl) (fun _ _ _ h => h) (by rfl) (fun w hSw => ?_) (by assumption) ?_
  rotate_left
  · (try dsimp only at hSw); first | (go_simp; done) | (go_simp; with_reducible rfl)
  simp only [List.setIfInBounds_toArray, List.set_cons_zero, List.set_cons_succ]
  refine heldTake (v := ?_) 59 69 rfl rfl (by kernel_rfl) (by kernel_rfl) (by kernel_rfl) (fun _ _ _ h => h) (by rfl) (fun w hSw => ?_) (by assumption) ?_
  rotate_left
  · (try dsimp only at hSw); first | (go_simp; done) | (go_simp; with_reducible rfl)
  simp only [List.setIfInBounds_toArray, List.set_cons_zero, List.set_cons_succ]
  refine heldTake (v := ?_) 60 70 rfl rfl (by kernel_rfl) (by kernel_rfl) (by kernel_rfl) (fun _ _ _ h => h) (by rfl) (fun w hSw => ?_) (by assumption) ?_
  rotate_left
  · (try dsimp only at hSw); first | (go_simp; done) | (go_simp; with_reducible rfl)
  simp only [List.setIfInBounds_toArray, List.set_cons_zero, List.set_cons_succ]
  refine heldTake (v := ?_) 61 71 rfl rfl (by kernel_rfl) (by kernel_rfl) (by kernel_rfl) (fun _ _ _ h => h) (by rfl) (fun w hSw => ?_) (by assumption) ?_
  rotate_left
  · (try dsimp only at hSw); first | (go_simp; done) | (go_simp; with_reducible rfl)
  simp only [List.setIfInBounds_toArray, List.set_cons_zero, List.set_cons_succ]
  refine heldOne 62 rfl (by kernel_rfl) (by rfl) (fun K2 hK => ?_)
  go_simp
  refine (D8 _).mono ?_
  rintro e wz ⟨rfl, hw⟩
  simp only []
  subst hw
  refine hK.out _ _ ?_ (fun hHeld => ?_)
  · (first | exact hHeld | assumption)
  clear hK K2
  try simp only [List.setIfInBounds_toArray, List.set_cons_zero, List.set_cons_succ]
  refine heldTake (v := ?_) 63 73 rfl rfl (by kernel_rfl) (by kernel_rfl) (by kernel_rfl) (fun _ _ _ h => h) (by rfl) (fun w hSw => ?_) (by assumption) ?_
  rotate_left
  · (try dsimp only at hSw); first | (go_simp; done) | (go_simp; with_reducible rfl)
  simp only [List.setIfInBounds_toArray, List.set_cons_zero, List.set_cons_succ]
  refine heldTake (v := ?_) 64 74 rfl rfl (by kernel_rfl) (by kernel_rfl) (by kernel_rfl) (fun _ _ _ h => h) (by rfl) (fun w hSw => ?_) (by assumption) ?_
  rotate_left
  · (try dsimp only at hSw); first | (go_simp; done) | (go_simp; with_reducible rfl)
  simp only [List.setIfInBounds_toArray, List.set_cons_zero, List.set_cons_succ]
  refine heldTake (v := ?_) 65 75 rfl rfl (by kernel_rfl) (by kernel_rfl) (by kernel_rfl) (fun _ _ _ h => h) (by rfl) (fun w hSw => ?_) (by assumption) ?_
  rotate_left
  · (try dsimp only at hSw); first | (go_simp; done) | (go_simp; with_reducible rfl)
  simp only [List.setIfInBounds_toArray, List.set_cons_zero, List.set_cons_succ]
  refine heldTake (v := ?_) 66 76 rfl rfl (by kernel_rfl) (by kernel_rfl) (by kernel_rfl) (fun _ _ _ h => h) (by rfl) (fun w hSw => ?_) (by assumption) ?_
  rotate_left
  · (try dsimp only at hSw); first | (go_simp; done) | (go_simp; with_reducible rfl)
  simp only [List.setIfInBounds_toArray, List.set_cons_zero, List.set_cons_succ]
  refine heldTake (v := ?_) 67 77 rfl rfl (by kernel_rfl) (by kernel_rfl) (by kernel_rfl) (fun _ _ _ h => h) (by rfl) (fun w hSw => ?_) (by assumption) ?_
  rotate_left
  · (try dsimp only at hSw); first | (go_simp; done) | (go_simp; with_reducible rfl)
  simp only [List.setIfInBounds_toArray, List.set_cons_zero, List.set_cons_succ]
  refine heldOne 68 rfl (by kernel_rfl) (by rfl) (fun K2 hK => ?_)
  go_simp
  refine (D9 _).mono ?_
  rintro e wz ⟨rfl, hw⟩
  simp only []
  subst hw
  refine hK.out _ _ ?_ (fun hHeld => ?_)
  · (first | exact hHeld | assumption)
  clear hK K2
  try simp only [List.setIfInBounds_toArray, List.set_cons_zero, List.set_cons_succ]
  refine heldTake (v := ?_) 69 79 rfl rfl (by kernel_rfl) (by kernel_rfl) (by kernel_rfl) (fun _ _ _ h => h) (by rfl) (fun w hSw => ?_) (by assumption) ?_
  rotate_left
  · (try dsimp only at hSw); first | (go_simp; done) | (go_simp; with_reducible rfl)
  simp only [List.setIfInBounds_toArray, List.set_cons_zero, List.set_cons_succ]
  refine heldTake (v := ?_) 70 80 rfl rfl (by kernel_rfl) (by kernel_rfl) (by kernel_rfl) (fun _ _ _ h => h) (by rfl) (fun w hSw => ?_) (by assumption) ?_
  rotate_left
  · (try dsimp only at hSw); first | (go_simp; done) | (go_simp; with_reducible rfl)
  simp only [List.setIfInBounds_toArray, List.set_cons_zero, List.set_cons_succ]
  refine wpAnyH_done (by kernel_rfl) ?_ _
  obtain ⟨⟨s0, s1, s2, s3, s4, s5, s6, s7, s8, s9, s10, s11, s12⟩, HB9⟩ := hHeld
  obtain ⟨ac, cc, y0, hcc, hrc⟩ := HFV.out _ HB9.out
  go_wp2
  go_ret
  exact ⟨by simp, chain HB0.out HB9.out⟩

end Go.Proofs.Ytjpcljmlkgjbgaa
