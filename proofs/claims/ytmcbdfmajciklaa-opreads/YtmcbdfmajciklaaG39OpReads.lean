/-
  Texts of the proof of OpReads, one behind the other.
-/
import Derived.Test.YtmcbdfmajciklaaRows
import Derived.Test.YtmcbdfmajciklaaG35OpReads
import Derived.Deep.CutRange
import Derived.Test.YtmcbdfmajciklaaG38OpReads
import Derived.Test.YtmcbdfmajciklaaG36OpReads
namespace Go.Proofs.Ytmcbdfmajciklaa
open Go.RowKit Go.Lib
set_option linter.unusedVariables false

theorem k3V {W w w' : World} {b0 b1 b2 o0 o1 o2 : Nat} {x0 x1 x2 : Value} (hb : Below w.heap.size w w')
    (h : w.cell? ⟨b0, o0, none⟩ = some x0 ∧ w.cell? ⟨b1, o1, none⟩ = some x1 ∧ w.cell? ⟨b2, o2, none⟩ = some x2 ∧ Hid (Below W.heap.size W w)) :
    w'.cell? ⟨b0, o0, none⟩ = some x0 ∧ w'.cell? ⟨b1, o1, none⟩ = some x1 ∧ w'.cell? ⟨b2, o2, none⟩ = some x2 ∧ Hid (Below W.heap.size W w') :=
  ⟨cell_later hb h.1, cell_later hb h.2.1, cell_later hb h.2.2.1, chain h.2.2.2.out hb⟩

theorem o3V {W w : World} {P Q R : Prop} (h : P ∧ Q ∧ R ∧ Hid (Below w.heap.size w W)) : Below w.heap.size w W := h.2.2.2.out

set_option maxRecDepth 100000 in
set_option maxHeartbeats 4000000 in
theorem opWithin_updNo (dp dn sp sl sq : Int) (key : ByteArray) (da va oa : Option Addr) (m nv no dc vc oc : Nat) (col : Int) (bf of_ nf fcap z : Nat) (ac : Option Addr) (nc cc : Nat) (w : World) (hk : key.size ≤ 9223372036854775807) (hkey : keyF key = true) (hz : z < nf) (hnf : nf ≤ 65536) (hnc : nc ≤ 65536)
    (hcol : w.cell? ⟨bf, of_ + z, none⟩ = some (.slice ac nc cc)) (hno : placeF nc col = false) :
    Calls Try.prog 51 #[.slice (some ⟨bf, of_, none⟩) nf fcap, .agg #[.int .i64 dp, .int .i64 dn, .slice da m dc, .int .i64 sp, .int .i64 sl, .int .i64 sq, .int .i64 2, .int .i64 (z : Int), .string key, .int .i64 col, .slice va nv vc, .slice oa no oc]] w fun e w' => e = .returned (.bool false) ∧ Below w.heap.size w w' := by
  have HK : Hid (CellsAt (w.alloc (.cells #[.int .i64 dp, .int .i64 dn, .slice da m dc, .int .i64 sp, .int .i64 sl, .int .i64 sq, .int .i64 2, .int .i64 (z : Int), .string key, .int .i64 col, .slice va nv vc, .slice oa no oc] 32)) w.heap.size #[.int .i64 dp, .int .i64 dn, .slice da m dc, .int .i64 sp, .int .i64 sl, .int .i64 sq, .int .i64 2, .int .i64 (z : Int), .string key, .int .i64 col, .slice va nv vc, .slice oa no oc] 32) := CellsAt.made rfl
  have HB0 : Hid (Below w.heap.size w (w.alloc (.cells #[.int .i64 dp, .int .i64 dn, .slice da m dc, .int .i64 sp, .int .i64 sl, .int .i64 sq, .int .i64 2, .int .i64 (z : Int), .string key, .int .i64 col, .slice va nv vc, .slice oa no oc] 32))) := alloc_below _ _
  have HS3 : (w.alloc (.cells #[.int .i64 dp, .int .i64 dn, .slice da m dc, .int .i64 sp, .int .i64 sl, .int .i64 sq, .int .i64 2, .int .i64 (z : Int), .string key, .int .i64 col, .slice va nv vc, .slice oa no oc] 32)).drew.cell? ⟨w.heap.size, 9, none⟩ = some (.int .i64 col) ∧ (w.alloc (.cells #[.int .i64 dp, .int .i64 dn, .slice da m dc, .int .i64 sp, .int .i64 sl, .int .i64 sq, .int .i64 2, .int .i64 (z : Int), .string key, .int .i64 col, .slice va nv vc, .slice oa no oc] 32)).drew.cell? ⟨w.heap.size, 10, none⟩ = some (.slice va nv vc) ∧ (w.alloc (.cells #[.int .i64 dp, .int .i64 dn, .slice da m dc, .int .i64 sp, .int .i64 sl, .int .i64 sq, .int .i64 2, .int .i64 (z : Int), .string key, .int .i64 col, .slice va nv vc, .slice oa no oc] 32)).drew.cell? ⟨w.heap.size, 11, none⟩ = some (.slice oa no oc) ∧ Hid (Below w.heap.size w (w.alloc (.cells #[.int .i64 dp, .int .i64 dn, .slice da m dc, .int .i64 sp, .int .i64 sl, .int .i64 sq, .int .i64 2, .int .i64 (z : Int), .string key, .int .i64 col, .slice va nv vc, .slice oa no oc] 32)).drew) := ⟨HK.out.cell 9, HK.out.cell 10, HK.out.cell 11, HB0.out.drew⟩
  clear HK
  have C1 := fun W => opPlace_any (nf : Int) (z : Int) W
  rw [show placeF nf z = true from by simp [placeF]; omega] at C1
  have C2 := fun W => opKey_any key W hk
  rw [hkey] at C2
  have x0 := cell_later HB0.out hcol
  have z0 : (0 : Int) ≤ (z : Int) := by omega
  have z1 : (z : Int) < (nf : Int) := by omega
  clear hcol
  have C3 := fun W => opPlace_any (nc : Int) col W
  rw [hno] at C3
  go_enter Try.func51, Try.ntmps51
  go_wp2_with fail
  refine (C1 _).mono ?_
  rintro e w1 ⟨rfl, hw⟩
  subst w1
  go_wp2_with fail
  refine (C2 _).mono ?_
  rintro e w1 ⟨rfl, hw⟩
  subst w1
  go_upto_region 8 with fail
  refine wp_region_held_drew (S := (fun w' => w'.cell? ⟨w.heap.size, 9, none⟩ = some (.int .i64 col) ∧ w'.cell? ⟨w.heap.size, 10, none⟩ = some (.slice va nv vc) ∧ w'.cell? ⟨w.heap.size, 11, none⟩ = some (.slice oa no oc) ∧ Hid (Below w.heap.size w w'))) (by kernel_rfl) HS3 (fun hHeld => ?_)
  refine heldTake (v := ?_) 0 45 rfl rfl (by kernel_rfl) (by kernel_rfl) (by kernel_rfl) (fun _ _ _ h => h) (by rfl) (fun w hSw => ?_) (by assumption) ?_
  rotate_left
  · (try dsimp only at hSw); first | (go_simp; done) | (go_simp; with_reducible rfl)
  simp only [List.setIfInBounds_toArray, List.set_cons_zero, List.set_cons_succ]
  refine heldTake (v := ?_) 1 46 rfl rfl (by kernel_rfl) (by kernel_rfl) (by kernel_rfl) (fun _ _ _ h => h) (by rfl) (fun w hSw => ?_) (by assumption) ?_
  rotate_left
  · (try dsimp only at hSw); first | (go_simp; done) | (go_simp; with_reducible rfl)
  simp only [List.setIfInBounds_toArray, List.set_cons_zero, List.set_cons_succ]
  refine heldTake (v := ?_) 2 47 rfl rfl (by kernel_rfl) (by kernel_rfl) (by kernel_rfl) (fun _ _ _ h => h) (by rfl) (fun w hSw => ?_) (by assumption) ?_
  rotate_left
  · (try dsimp only at hSw); first | (go_simp; done) | (go_simp; with_reducible rfl)
  simp only [List.setIfInBounds_toArray, List.set_cons_zero, List.set_cons_succ]
  refine heldTake (v := ?_) 3 48 rfl rfl (by kernel_rfl) (by kernel_rfl) (by kernel_rfl) (fun _ _ _ h => h) (by rfl) (fun w hSw => ?_) (by assumption) ?_
  rotate_left
  · (try dsimp only at hSw); first | (go_simp; done) | (go_simp; with_reducible rfl)
  simp only [List.setIfInBounds_toArray, List.set_cons_zero, List.set_cons_succ]
  refine heldOne 4 rfl (by kernel_rfl) (by rfl) (fun K2 hK => ?_)
  go_simp
  refine (C3 _).mono ?_
  rintro e wz ⟨rfl, hw⟩
  simp only []
  subst hw
  refine hK.out _ _ ?_ (fun hHeld => ?_)
  · assumption
  clear hK K2
  try simp only [List.setIfInBounds_toArray, List.set_cons_zero, List.set_cons_succ]
  refine heldTake (v := ?_) 5 50 rfl rfl (by kernel_rfl) (by kernel_rfl) (by kernel_rfl) (fun _ _ _ h => h) (by rfl) (fun w hSw => ?_) (by assumption) ?_
  rotate_left
  · (try dsimp only at hSw); first | (go_simp; done) | (go_simp; with_reducible rfl)
  simp only [List.setIfInBounds_toArray, List.set_cons_zero, List.set_cons_succ]
  refine heldSkip 6 51 rfl rfl (by kernel_rfl) (by kernel_rfl) (by kernel_rfl) (fun _ _ _ h => h) (by rfl) (by assumption) ?_
  simp only [List.setIfInBounds_toArray, List.set_cons_zero, List.set_cons_succ]
  refine heldSkip 7 52 rfl rfl (by kernel_rfl) (by kernel_rfl) (by kernel_rfl) (fun _ _ _ h => h) (by rfl) (by assumption) ?_
  simp only [List.setIfInBounds_toArray, List.set_cons_zero, List.set_cons_succ]
  refine heldSkip 8 53 rfl rfl (by kernel_rfl) (by kernel_rfl) (by kernel_rfl) (fun _ _ _ h => h) (by rfl) (by assumption) ?_
  simp only [List.setIfInBounds_toArray, List.set_cons_zero, List.set_cons_succ]
  refine heldSkip 9 54 rfl rfl (by kernel_rfl) (by kernel_rfl) (by kernel_rfl) (fun _ _ _ h => h) (by rfl) (by assumption) ?_
  simp only [List.setIfInBounds_toArray, List.set_cons_zero, List.set_cons_succ]
  refine heldSkip 10 55 rfl rfl (by kernel_rfl) (by kernel_rfl) (by kernel_rfl) (fun _ _ _ h => h) (by rfl) (by assumption) ?_
  simp only [List.setIfInBounds_toArray, List.set_cons_zero, List.set_cons_succ]
  refine heldSkip 11 56 rfl rfl (by kernel_rfl) (by kernel_rfl) (by kernel_rfl) (fun _ _ _ h => h) (by rfl) (by assumption) ?_
  simp only [List.setIfInBounds_toArray, List.set_cons_zero, List.set_cons_succ]
  refine heldSkip 12 57 rfl rfl (by kernel_rfl) (by kernel_rfl) (by kernel_rfl) (fun _ _ _ h => h) (by rfl) (by assumption) ?_
  simp only [List.setIfInBounds_toArray, List.set_cons_zero, List.set_cons_succ]
  refine heldSkip 13 58 rfl rfl (by kernel_rfl) (by kernel_rfl) (by kernel_rfl) (fun _ _ _ h => h) (by rfl) (by assumption) ?_
  simp only [List.setIfInBounds_toArray, List.set_cons_zero, List.set_cons_succ]
  refine heldSkip 14 59 rfl rfl (by kernel_rfl) (by kernel_rfl) (by kernel_rfl) (fun _ _ _ h => h) (by rfl) (by assumption) ?_
  simp only [List.setIfInBounds_toArray, List.set_cons_zero, List.set_cons_succ]
  refine heldSkip 15 60 rfl rfl (by kernel_rfl) (by kernel_rfl) (by kernel_rfl) (fun _ _ _ h => h) (by rfl) (by assumption) ?_
  simp only [List.setIfInBounds_toArray, List.set_cons_zero, List.set_cons_succ]
  refine heldTake (v := ?_) 16 61 rfl rfl (by kernel_rfl) (by kernel_rfl) (by kernel_rfl) (fun _ _ _ h => h) (by rfl) (fun w hSw => ?_) (by assumption) ?_
  rotate_left
  · (try dsimp only at hSw); first | (go_simp; done) | (go_simp; with_reducible rfl)
  simp only [List.setIfInBounds_toArray, List.set_cons_zero, List.set_cons_succ]
  refine heldTake (v := ?_) 17 62 rfl rfl (by kernel_rfl) (by kernel_rfl) (by kernel_rfl) (fun _ _ _ h => h) (by rfl) (fun w hSw => ?_) (by assumption) ?_
  rotate_left
  · (try dsimp only at hSw); first | (go_simp; done) | (go_simp; with_reducible rfl)
  simp only [List.setIfInBounds_toArray, List.set_cons_zero, List.set_cons_succ]
  refine heldSkip 18 63 rfl rfl (by kernel_rfl) (by kernel_rfl) (by kernel_rfl) (fun _ _ _ h => h) (by rfl) (by assumption) ?_
  simp only [List.setIfInBounds_toArray, List.set_cons_zero, List.set_cons_succ]
  refine heldSkip 19 64 rfl rfl (by kernel_rfl) (by kernel_rfl) (by kernel_rfl) (fun _ _ _ h => h) (by rfl) (by assumption) ?_
  simp only [List.setIfInBounds_toArray, List.set_cons_zero, List.set_cons_succ]
  refine heldSkip 20 65 rfl rfl (by kernel_rfl) (by kernel_rfl) (by kernel_rfl) (fun _ _ _ h => h) (by rfl) (by assumption) ?_
  simp only [List.setIfInBounds_toArray, List.set_cons_zero, List.set_cons_succ]
  refine heldSkip 21 66 rfl rfl (by kernel_rfl) (by kernel_rfl) (by kernel_rfl) (fun _ _ _ h => h) (by rfl) (by assumption) ?_
  simp only [List.setIfInBounds_toArray, List.set_cons_zero, List.set_cons_succ]
  refine heldTake (v := ?_) 22 67 rfl rfl (by kernel_rfl) (by kernel_rfl) (by kernel_rfl) (fun _ _ _ h => h) (by rfl) (fun w hSw => ?_) (by assumption) ?_
  rotate_left
  · (try dsimp only at hSw); first | (go_simp; done) | (go_simp; with_reducible rfl)
  simp only [List.setIfInBounds_toArray, List.set_cons_zero, List.set_cons_succ]
  refine heldTake (v := ?_) 23 4 rfl rfl (by kernel_rfl) (by kernel_rfl) (by kernel_rfl) (fun _ _ _ h => h) (by rfl) (fun w hSw => ?_) (by assumption) ?_
  rotate_left
  · (try dsimp only at hSw); first | (go_simp; done) | (go_simp; with_reducible rfl)
  simp only [List.setIfInBounds_toArray, List.set_cons_zero, List.set_cons_succ]
  refine wpAnyH_done (by kernel_rfl) ?_ _
  have HB9 : Hid (Below w.heap.size w _) := hHeld.2.2.2
  clear hHeld
  go_wp2
  go_ret
  exact ⟨rfl, HB9.out⟩

set_option maxRecDepth 100000 in
set_option maxHeartbeats 4000000 in
theorem opWithin_upd (dp dn sp sl sq : Int) (key : ByteArray) (da va oa : Option Addr) (m nv no dc vc oc : Nat) (j : Nat) (put : Bool) (bf of_ nf fcap z bc ob nc cc : Nat) (w : World) (hk : key.size ≤ 9223372036854775807) (hkey : keyF key = true) (hz : z < nf) (hnf : nf ≤ 65536) (hnc : nc ≤ 65536) (hj : j < nc) (hcc : nc ≤ cc)
    (hcol : w.cell? ⟨bf, of_ + z, none⟩ = some (.slice (some ⟨bc, ob, none⟩) nc cc))
    (C : ∀ W, Below w.heap.size w W → Calls Try.prog 86 #[.slice va nv vc, .slice (some ⟨bc, ob + j, none⟩) 1 (cc - j)] W fun e w' => e = .returned (.bool put) ∧ Below W.heap.size W w') :
    Calls Try.prog 51 #[.slice (some ⟨bf, of_, none⟩) nf fcap, .agg #[.int .i64 dp, .int .i64 dn, .slice da m dc, .int .i64 sp, .int .i64 sl, .int .i64 sq, .int .i64 2, .int .i64 (z : Int), .string key, .int .i64 (j : Int), .slice va nv vc, .slice oa no oc]] w fun e w' => e = .returned (.bool (put && decide (no = 0))) ∧ Below w.heap.size w w' := by
  have HK : Hid (CellsAt (w.alloc (.cells #[.int .i64 dp, .int .i64 dn, .slice da m dc, .int .i64 sp, .int .i64 sl, .int .i64 sq, .int .i64 2, .int .i64 (z : Int), .string key, .int .i64 (j : Int), .slice va nv vc, .slice oa no oc] 32)) w.heap.size #[.int .i64 dp, .int .i64 dn, .slice da m dc, .int .i64 sp, .int .i64 sl, .int .i64 sq, .int .i64 2, .int .i64 (z : Int), .string key, .int .i64 (j : Int), .slice va nv vc, .slice oa no oc] 32) := CellsAt.made rfl
  have HB0 : Hid (Below w.heap.size w (w.alloc (.cells #[.int .i64 dp, .int .i64 dn, .slice da m dc, .int .i64 sp, .int .i64 sl, .int .i64 sq, .int .i64 2, .int .i64 (z : Int), .string key, .int .i64 (j : Int), .slice va nv vc, .slice oa no oc] 32))) := alloc_below _ _
  have HS3 : (w.alloc (.cells #[.int .i64 dp, .int .i64 dn, .slice da m dc, .int .i64 sp, .int .i64 sl, .int .i64 sq, .int .i64 2, .int .i64 (z : Int), .string key, .int .i64 (j : Int), .slice va nv vc, .slice oa no oc] 32)).drew.cell? ⟨w.heap.size, 9, none⟩ = some (.int .i64 (j : Int)) ∧ (w.alloc (.cells #[.int .i64 dp, .int .i64 dn, .slice da m dc, .int .i64 sp, .int .i64 sl, .int .i64 sq, .int .i64 2, .int .i64 (z : Int), .string key, .int .i64 (j : Int), .slice va nv vc, .slice oa no oc] 32)).drew.cell? ⟨w.heap.size, 10, none⟩ = some (.slice va nv vc) ∧ (w.alloc (.cells #[.int .i64 dp, .int .i64 dn, .slice da m dc, .int .i64 sp, .int .i64 sl, .int .i64 sq, .int .i64 2, .int .i64 (z : Int), .string key, .int .i64 (j : Int), .slice va nv vc, .slice oa no oc] 32)).drew.cell? ⟨w.heap.size, 11, none⟩ = some (.slice oa no oc) ∧ Hid (Below w.heap.size w (w.alloc (.cells #[.int .i64 dp, .int .i64 dn, .slice da m dc, .int .i64 sp, .int .i64 sl, .int .i64 sq, .int .i64 2, .int .i64 (z : Int), .string key, .int .i64 (j : Int), .slice va nv vc, .slice oa no oc] 32)).drew) := ⟨HK.out.cell 9, HK.out.cell 10, HK.out.cell 11, HB0.out.drew⟩
  clear HK
  have C1 := fun W => opPlace_any (nf : Int) (z : Int) W
  rw [show placeF nf z = true from by simp [placeF]; omega] at C1
  have C2 := fun W => opKey_any key W hk
  rw [hkey] at C2
  have x0 := cell_later HB0.out hcol
  have z0 : (0 : Int) ≤ (z : Int) := by omega
  have z1 : (z : Int) < (nf : Int) := by omega
  clear hcol
  have C3 := fun W => opPlace_any (nc : Int) (j : Int) W
  rw [show placeF nc j = true from by simp [placeF]; omega] at C3
  have jw : IntKind.i64.wrap ((j : Int) + 1) = (j : Int) + 1 := by rw [IntKind.wrap_i64]; omega
  have j0 : (0 : Int) ≤ (j : Int) := by omega
  have j1 : (j : Int) ≤ (j : Int) + 1 := by omega
  have j2 : (j : Int) + 1 ≤ (cc : Int) := by omega
  have j3 : (j : Int) + 1 ≤ (nc : Int) := by omega
  have j4 : (0 : Int) ≤ (j : Int) + 1 := by omega
  have j5 : (cc = j) = False := by simp; omega
  go_enter Try.func51, Try.ntmps51
  go_wp2_with fail
  refine (C1 _).mono ?_
  rintro e w1 ⟨rfl, hw⟩
  subst w1
  go_wp2_with fail
  refine (C2 _).mono ?_
  rintro e w1 ⟨rfl, hw⟩
  subst w1
  go_upto_region 8 with fail
  cases put with
  | false =>
    refine wp_region_held_drew (S := (fun w' => w'.cell? ⟨w.heap.size, 9, none⟩ = some (.int .i64 (j : Int)) ∧ w'.cell? ⟨w.heap.size, 10, none⟩ = some (.slice va nv vc) ∧ w'.cell? ⟨w.heap.size, 11, none⟩ = some (.slice oa no oc) ∧ Hid (Below w.heap.size w w'))) (by kernel_rfl) HS3 (fun hHeld => ?_)
    refine heldTake (v := ?_) 0 45 rfl rfl (by kernel_rfl) (by kernel_rfl) (by kernel_rfl) (fun _ _ _ h => h) (by rfl) (fun w hSw => ?_) (by assumption) ?_
    rotate_left
    · (try dsimp only at hSw); first | (go_simp; done) | (go_simp; with_reducible rfl)
    simp only [List.setIfInBounds_toArray, List.set_cons_zero, List.set_cons_succ]
    refine heldTake (v := ?_) 1 46 rfl rfl (by kernel_rfl) (by kernel_rfl) (by kernel_rfl) (fun _ _ _ h => h) (by rfl) (fun w hSw => ?_) (by assumption) ?_
    rotate_left
    · (try dsimp only at hSw); first | (go_simp; done) | (go_simp; with_reducible rfl)
    simp only [List.setIfInBounds_toArray, List.set_cons_zero, List.set_cons_succ]
    refine heldTake (v := ?_) 2 47 rfl rfl (by kernel_rfl) (by kernel_rfl) (by kernel_rfl) (fun _ _ _ h => h) (by rfl) (fun w hSw => ?_) (by assumption) ?_
    rotate_left
    · (try dsimp only at hSw); first | (go_simp; done) | (go_simp; with_reducible rfl)
    simp only [List.setIfInBounds_toArray, List.set_cons_zero, List.set_cons_succ]
    refine heldTake (v := ?_) 3 48 rfl rfl (by kernel_rfl) (by kernel_rfl) (by kernel_rfl) (fun _ _ _ h => h) (by rfl) (fun w hSw => ?_) (by assumption) ?_
    rotate_left
    · (try dsimp only at hSw); first | (go_simp; done) | (go_simp; with_reducible rfl)
    simp only [List.setIfInBounds_toArray, List.set_cons_zero, List.set_cons_succ]
    refine heldOne 4 rfl (by kernel_rfl) (by rfl) (fun K2 hK => ?_)
    go_simp
    refine (C3 _).mono ?_
    rintro e wz ⟨rfl, hw⟩
    simp only []
    subst hw
    refine hK.out _ _ ?_ (fun hHeld => ?_)
    · first | exact k3V hb (by assumption) | assumption
    clear hK K2
    try simp only [List.setIfInBounds_toArray, List.set_cons_zero, List.set_cons_succ]
    refine heldTake (v := ?_) 5 50 rfl rfl (by kernel_rfl) (by kernel_rfl) (by kernel_rfl) (fun _ _ _ h => h) (by rfl) (fun w hSw => ?_) (by assumption) ?_
    rotate_left
    · (try dsimp only at hSw); first | (go_simp; done) | (go_simp; with_reducible rfl)
    simp only [List.setIfInBounds_toArray, List.set_cons_zero, List.set_cons_succ]
    refine heldTake (v := ?_) 6 51 rfl rfl (by kernel_rfl) (by kernel_rfl) (by kernel_rfl) (fun _ _ _ h => h) (by rfl) (fun w hSw => ?_) (by assumption) ?_
    rotate_left
    · (try dsimp only at hSw); first | (go_simp; done) | (go_simp; with_reducible rfl)
    simp only [List.setIfInBounds_toArray, List.set_cons_zero, List.set_cons_succ]
    refine heldTake (v := ?_) 7 52 rfl rfl (by kernel_rfl) (by kernel_rfl) (by kernel_rfl) (fun _ _ _ h => h) (by rfl) (fun w hSw => ?_) (by assumption) ?_
    rotate_left
    · (try dsimp only at hSw); first | (go_simp; done) | (go_simp; with_reducible rfl)
    simp only [List.setIfInBounds_toArray, List.set_cons_zero, List.set_cons_succ]
    refine heldTake (v := ?_) 8 53 rfl rfl (by kernel_rfl) (by kernel_rfl) (by kernel_rfl) (fun _ _ _ h => h) (by rfl) (fun w hSw => ?_) (by assumption) ?_
    rotate_left
    · (try dsimp only at hSw); first | (go_simp; done) | (go_simp; with_reducible rfl)
    simp only [List.setIfInBounds_toArray, List.set_cons_zero, List.set_cons_succ]
    refine heldTake (v := ?_) 9 54 rfl rfl (by kernel_rfl) (by kernel_rfl) (by kernel_rfl) (fun _ _ _ h => h) (by rfl) (fun w hSw => ?_) (by assumption) ?_
    rotate_left
    · (try dsimp only at hSw); first | (go_simp; done) | (go_simp; with_reducible rfl)
    simp only [List.setIfInBounds_toArray, List.set_cons_zero, List.set_cons_succ]
    refine heldTake (v := ?_) 10 55 rfl rfl (by kernel_rfl) (by kernel_rfl) (by kernel_rfl) (fun _ _ _ h => h) (by rfl) (fun w hSw => ?_) (by assumption) ?_
    rotate_left
    · (try dsimp only at hSw); first | (go_simp; done) | (go_simp; with_reducible rfl)
    simp only [List.setIfInBounds_toArray, List.set_cons_zero, List.set_cons_succ]
    refine heldTake (v := ?_) 11 56 rfl rfl (by kernel_rfl) (by kernel_rfl) (by kernel_rfl) (fun _ _ _ h => h) (by rfl) (fun w hSw => ?_) (by assumption) ?_
    rotate_left
    · (try dsimp only at hSw); first | (go_simp; done) | (go_simp; with_reducible rfl)
    simp only [List.setIfInBounds_toArray, List.set_cons_zero, List.set_cons_succ]
    refine heldTake (v := ?_) 12 57 rfl rfl (by kernel_rfl) (by kernel_rfl) (by kernel_rfl) (fun _ _ _ h => h) (by rfl) (fun w hSw => ?_) (by assumption) ?_
    rotate_left
    · (try dsimp only at hSw); first | (go_simp; done) | (go_simp; with_reducible rfl)
    simp only [List.setIfInBounds_toArray, List.set_cons_zero, List.set_cons_succ]
    refine heldTake (v := ?_) 13 58 rfl rfl (by kernel_rfl) (by kernel_rfl) (by kernel_rfl) (fun _ _ _ h => h) (by rfl) (fun w hSw => ?_) (by assumption) ?_
    rotate_left
    · (try dsimp only at hSw); first | (go_simp; done) | (go_simp; with_reducible rfl)
    simp only [List.setIfInBounds_toArray, List.set_cons_zero, List.set_cons_succ]
    refine heldTake (v := ?_) 14 59 rfl rfl (by kernel_rfl) (by kernel_rfl) (by kernel_rfl) (fun _ _ _ h => h) (by rfl) (fun w hSw => ?_) (by assumption) ?_
    rotate_left
    · (try dsimp only at hSw); first | (go_simp; done) | (go_simp; with_reducible rfl)
    simp only [List.setIfInBounds_toArray, List.set_cons_zero, List.set_cons_succ]
    refine heldOne 15 rfl (by kernel_rfl) (by rfl) (fun K2 hK => ?_)
    go_simp
    refine (C _ (o3V (by assumption))).mono ?_
    rintro e wz ⟨rfl, hb⟩
    simp only []
    refine hK.out _ _ ?_ (fun hHeld => ?_)
    · first | exact k3V hb (by assumption) | assumption
    clear hK K2
    try simp only [List.setIfInBounds_toArray, List.set_cons_zero, List.set_cons_succ]
    refine heldTake (v := ?_) 16 61 rfl rfl (by kernel_rfl) (by kernel_rfl) (by kernel_rfl) (fun _ _ _ h => h) (by rfl) (fun w hSw => ?_) (by assumption) ?_
    rotate_left
    · (try dsimp only at hSw); first | (go_simp; done) | (go_simp; with_reducible rfl)
    simp only [List.setIfInBounds_toArray, List.set_cons_zero, List.set_cons_succ]
    refine heldTake (v := ?_) 17 62 rfl rfl (by kernel_rfl) (by kernel_rfl) (by kernel_rfl) (fun _ _ _ h => h) (by rfl) (fun w hSw => ?_) (by assumption) ?_
    rotate_left
    · (try dsimp only at hSw); first | (go_simp; done) | (go_simp; with_reducible rfl)
    simp only [List.setIfInBounds_toArray, List.set_cons_zero, List.set_cons_succ]
    refine heldSkip 18 63 rfl rfl (by kernel_rfl) (by kernel_rfl) (by kernel_rfl) (fun _ _ _ h => h) (by rfl) (by assumption) ?_
    simp only [List.setIfInBounds_toArray, List.set_cons_zero, List.set_cons_succ]
    refine heldSkip 19 64 rfl rfl (by kernel_rfl) (by kernel_rfl) (by kernel_rfl) (fun _ _ _ h => h) (by rfl) (by assumption) ?_
    simp only [List.setIfInBounds_toArray, List.set_cons_zero, List.set_cons_succ]
    refine heldSkip 20 65 rfl rfl (by kernel_rfl) (by kernel_rfl) (by kernel_rfl) (fun _ _ _ h => h) (by rfl) (by assumption) ?_
    simp only [List.setIfInBounds_toArray, List.set_cons_zero, List.set_cons_succ]
    refine heldSkip 21 66 rfl rfl (by kernel_rfl) (by kernel_rfl) (by kernel_rfl) (fun _ _ _ h => h) (by rfl) (by assumption) ?_
    simp only [List.setIfInBounds_toArray, List.set_cons_zero, List.set_cons_succ]
    refine heldTake (v := ?_) 22 67 rfl rfl (by kernel_rfl) (by kernel_rfl) (by kernel_rfl) (fun _ _ _ h => h) (by rfl) (fun w hSw => ?_) (by assumption) ?_
    rotate_left
    · (try dsimp only at hSw); first | (go_simp; done) | (go_simp; with_reducible rfl)
    simp only [List.setIfInBounds_toArray, List.set_cons_zero, List.set_cons_succ]
    refine heldTake (v := ?_) 23 4 rfl rfl (by kernel_rfl) (by kernel_rfl) (by kernel_rfl) (fun _ _ _ h => h) (by rfl) (fun w hSw => ?_) (by assumption) ?_
    rotate_left
    · (try dsimp only at hSw); first | (go_simp; done) | (go_simp; with_reducible rfl)
    simp only [List.setIfInBounds_toArray, List.set_cons_zero, List.set_cons_succ]
    refine wpAnyH_done (by kernel_rfl) ?_ _
    have HB9 : Hid (Below w.heap.size w _) := hHeld.2.2.2
    clear hHeld
    go_wp2
    go_ret
    exact ⟨rfl, HB9.out⟩
  | true =>
    by_cases h2 : no = 0
    · subst h2
      refine wp_region_held_drew (S := (fun w' => w'.cell? ⟨w.heap.size, 9, none⟩ = some (.int .i64 (j : Int)) ∧ w'.cell? ⟨w.heap.size, 10, none⟩ = some (.slice va nv vc) ∧ w'.cell? ⟨w.heap.size, 11, none⟩ = some (.slice oa 0 oc) ∧ Hid (Below w.heap.size w w'))) (by kernel_rfl) HS3 (fun hHeld => ?_)
      refine heldTake (v := ?_) 0 45 rfl rfl (by kernel_rfl) (by kernel_rfl) (by kernel_rfl) (fun _ _ _ h => h) (by rfl) (fun w hSw => ?_) (by assumption) ?_
      rotate_left
      · (try dsimp only at hSw); first | (go_simp; done) | (go_simp; with_reducible rfl)
      simp only [List.setIfInBounds_toArray, List.set_cons_zero, List.set_cons_succ]
      refine heldTake (v := ?_) 1 46 rfl rfl (by kernel_rfl) (by kernel_rfl) (by kernel_rfl) (fun _ _ _ h => h) (by rfl) (fun w hSw => ?_) (by assumption) ?_
      rotate_left
      · (try dsimp only at hSw); first | (go_simp; done) | (go_simp; with_reducible rfl)
      simp only [List.setIfInBounds_toArray, List.set_cons_zero, List.set_cons_succ]
      refine heldTake (v := ?_) 2 47 rfl rfl (by kernel_rfl) (by kernel_rfl) (by kernel_rfl) (fun _ _ _ h => h) (by rfl) (fun w hSw => ?_) (by assumption) ?_
      rotate_left
      · (try dsimp only at hSw); first | (go_simp; done) | (go_simp; with_reducible rfl)
      simp only [List.setIfInBounds_toArray, List.set_cons_zero, List.set_cons_succ]
      refine heldTake (v := ?_) 3 48 rfl rfl (by kernel_rfl) (by kernel_rfl) (by kernel_rfl) (fun _ _ _ h => h) (by rfl) (fun w hSw => ?_) (by assumption) ?_
      rotate_left
      · (try dsimp only at hSw); first | (go_simp; done) | (go_simp; with_reducible rfl)
      simp only [List.setIfInBounds_toArray, List.set_cons_zero, List.set_cons_succ]
      refine heldOne 4 rfl (by kernel_rfl) (by rfl) (fun K2 hK => ?_)
      go_simp
      refine (C3 _).mono ?_
      rintro e wz ⟨rfl, hw⟩
      simp only []
      subst hw
      refine hK.out _ _ ?_ (fun hHeld => ?_)
      · first | exact k3V hb (by assumption) | assumption
      clear hK K2
      try simp only [List.setIfInBounds_toArray, List.set_cons_zero, List.set_cons_succ]
      refine heldTake (v := ?_) 5 50 rfl rfl (by kernel_rfl) (by kernel_rfl) (by kernel_rfl) (fun _ _ _ h => h) (by rfl) (fun w hSw => ?_) (by assumption) ?_
      rotate_left
      · (try dsimp only at hSw); first | (go_simp; done) | (go_simp; with_reducible rfl)
      simp only [List.setIfInBounds_toArray, List.set_cons_zero, List.set_cons_succ]
      refine heldTake (v := ?_) 6 51 rfl rfl (by kernel_rfl) (by kernel_rfl) (by kernel_rfl) (fun _ _ _ h => h) (by rfl) (fun w hSw => ?_) (by assumption) ?_
      rotate_left
      · (try dsimp only at hSw); first | (go_simp; done) | (go_simp; with_reducible rfl)
      simp only [List.setIfInBounds_toArray, List.set_cons_zero, List.set_cons_succ]
      refine heldTake (v := ?_) 7 52 rfl rfl (by kernel_rfl) (by kernel_rfl) (by kernel_rfl) (fun _ _ _ h => h) (by rfl) (fun w hSw => ?_) (by assumption) ?_
      rotate_left
      · (try dsimp only at hSw); first | (go_simp; done) | (go_simp; with_reducible rfl)
      simp only [List.setIfInBounds_toArray, List.set_cons_zero, List.set_cons_succ]
      refine heldTake (v := ?_) 8 53 rfl rfl (by kernel_rfl) (by kernel_rfl) (by kernel_rfl) (fun _ _ _ h => h) (by rfl) (fun w hSw => ?_) (by assumption) ?_
      rotate_left
      · (try dsimp only at hSw); first | (go_simp; done) | (go_simp; with_reducible rfl)
      simp only [List.setIfInBounds_toArray, List.set_cons_zero, List.set_cons_succ]
      refine heldTake (v := ?_) 9 54 rfl rfl (by kernel_rfl) (by kernel_rfl) (by kernel_rfl) (fun _ _ _ h => h) (by rfl) (fun w hSw => ?_) (by assumption) ?_
      rotate_left
      · (try dsimp only at hSw); first | (go_simp; done) | (go_simp; with_reducible rfl)
      simp only [List.setIfInBounds_toArray, List.set_cons_zero, List.set_cons_succ]
      refine heldTake (v := ?_) 10 55 rfl rfl (by kernel_rfl) (by kernel_rfl) (by kernel_rfl) (fun _ _ _ h => h) (by rfl) (fun w hSw => ?_) (by assumption) ?_
      rotate_left
      · (try dsimp only at hSw); first | (go_simp; done) | (go_simp; with_reducible rfl)
      simp only [List.setIfInBounds_toArray, List.set_cons_zero, List.set_cons_succ]
      refine heldTake (v := ?_) 11 56 rfl rfl (by kernel_rfl) (by kernel_rfl) (by kernel_rfl) (fun _ _ _ h => h) (by rfl) (fun w hSw => ?_) (by assumption) ?_
      rotate_left
      · (try dsimp only at hSw); first | (go_simp; done) | (go_simp; with_reducible rfl)
      simp only [List.setIfInBounds_toArray, List.set_cons_zero, List.set_cons_succ]
      refine heldTake (v := ?_) 12 57 rfl rfl (by kernel_rfl) (by kernel_rfl) (by kernel_rfl) (fun _ _ _ h => h) (by rfl) (fun w hSw => ?_) (by assumption) ?_
      rotate_left
      · (try dsimp only at hSw); first | (go_simp; done) | (go_simp; with_reducible rfl)
      simp only [List.setIfInBounds_toArray, List.set_cons_zero, List.set_cons_succ]
      refine heldTake (v := ?_) 13 58 rfl rfl (by kernel_rfl) (by kernel_rfl) (by kernel_rfl) (fun _ _ _ h => h) (by rfl) (fun w hSw => ?_) (by assumption) ?_
      rotate_left
      · (try dsimp only at hSw); first | (go_simp; done) | (go_simp; with_reducible rfl)
      simp only [List.setIfInBounds_toArray, List.set_cons_zero, List.set_cons_succ]
      refine heldTake (v := ?_) 14 59 rfl rfl (by kernel_rfl) (by kernel_rfl) (by kernel_rfl) (fun _ _ _ h => h) (by rfl) (fun w hSw => ?_) (by assumption) ?_
      rotate_left
      · (try dsimp only at hSw); first | (go_simp; done) | (go_simp; with_reducible rfl)
      simp only [List.setIfInBounds_toArray, List.set_cons_zero, List.set_cons_succ]
      refine heldOne 15 rfl (by kernel_rfl) (by rfl) (fun K2 hK => ?_)
      go_simp
      refine (C _ (o3V (by assumption))).mono ?_
      rintro e wz ⟨rfl, hb⟩
      simp only []
      refine hK.out _ _ ?_ (fun hHeld => ?_)
      · first | exact k3V hb (by assumption) | assumption
      clear hK K2
      try simp only [List.setIfInBounds_toArray, List.set_cons_zero, List.set_cons_succ]
      refine heldTake (v := ?_) 16 61 rfl rfl (by kernel_rfl) (by kernel_rfl) (by kernel_rfl) (fun _ _ _ h => h) (by rfl) (fun w hSw => ?_) (by assumption) ?_
      rotate_left
      · (try dsimp only at hSw); first | (go_simp; done) | (go_simp; with_reducible rfl)
      simp only [List.setIfInBounds_toArray, List.set_cons_zero, List.set_cons_succ]
      refine heldTake (v := ?_) 17 62 rfl rfl (by kernel_rfl) (by kernel_rfl) (by kernel_rfl) (fun _ _ _ h => h) (by rfl) (fun w hSw => ?_) (by assumption) ?_
      rotate_left
      · (try dsimp only at hSw); first | (go_simp; done) | (go_simp; with_reducible rfl)
      simp only [List.setIfInBounds_toArray, List.set_cons_zero, List.set_cons_succ]
      refine heldTake (v := ?_) 18 63 rfl rfl (by kernel_rfl) (by kernel_rfl) (by kernel_rfl) (fun _ _ _ h => h) (by rfl) (fun w hSw => ?_) (by assumption) ?_
      rotate_left
      · (try dsimp only at hSw); first | (go_simp; done) | (go_simp; with_reducible rfl)
      simp only [List.setIfInBounds_toArray, List.set_cons_zero, List.set_cons_succ]
      refine heldTake (v := ?_) 19 64 rfl rfl (by kernel_rfl) (by kernel_rfl) (by kernel_rfl) (fun _ _ _ h => h) (by rfl) (fun w hSw => ?_) (by assumption) ?_
      rotate_left
      · (try dsimp only at hSw); first | (go_simp; done) | (go_simp; with_reducible rfl)
      simp only [List.setIfInBounds_toArray, List.set_cons_zero, List.set_cons_succ]
      refine heldTake (v := ?_) 20 65 rfl rfl (by kernel_rfl) (by kernel_rfl) (by kernel_rfl) (fun _ _ _ h => h) (by rfl) (fun w hSw => ?_) (by assumption) ?_
      rotate_left
      · (try dsimp only at hSw); first | (go_simp; done) | (go_simp; with_reducible rfl)
      simp only [List.setIfInBounds_toArray, List.set_cons_zero, List.set_cons_succ]
      refine heldTake (v := ?_) 21 66 rfl rfl (by kernel_rfl) (by kernel_rfl) (by kernel_rfl) (fun _ _ _ h => h) (by rfl) (fun w hSw => ?_) (by assumption) ?_
      rotate_left
      · (try dsimp only at hSw); first | (go_simp; done) | (go_simp; with_reducible rfl)
      simp only [List.setIfInBounds_toArray, List.set_cons_zero, List.set_cons_succ]
      refine heldTake (v := ?_) 22 67 rfl rfl (by kernel_rfl) (by kernel_rfl) (by kernel_rfl) (fun _ _ _ h => h) (by rfl) (fun w hSw => ?_) (by assumption) ?_
      rotate_left
      · (try dsimp only at hSw); first | (go_simp; done) | (go_simp; with_reducible rfl)
      simp only [List.setIfInBounds_toArray, List.set_cons_zero, List.set_cons_succ]
      refine heldTake (v := ?_) 23 4 rfl rfl (by kernel_rfl) (by kernel_rfl) (by kernel_rfl) (fun _ _ _ h => h) (by rfl) (fun w hSw => ?_) (by assumption) ?_
      rotate_left
      · (try dsimp only at hSw); first | (go_simp; done) | (go_simp; with_reducible rfl)
      simp only [List.setIfInBounds_toArray, List.set_cons_zero, List.set_cons_succ]
      refine wpAnyH_done (by kernel_rfl) ?_ _
      have HB9 : Hid (Below w.heap.size w _) := hHeld.2.2.2
      clear hHeld
      go_wp2
      go_ret
      exact ⟨by first | rfl | simp, HB9.out⟩
    · have q2 : ((no : Int) == 0) = false := by simp; omega
      refine wp_region_held_drew (S := (fun w' => w'.cell? ⟨w.heap.size, 9, none⟩ = some (.int .i64 (j : Int)) ∧ w'.cell? ⟨w.heap.size, 10, none⟩ = some (.slice va nv vc) ∧ w'.cell? ⟨w.heap.size, 11, none⟩ = some (.slice oa no oc) ∧ Hid (Below w.heap.size w w'))) (by kernel_rfl) HS3 (fun hHeld => ?_)
      refine heldTake (v := ?_) 0 45 rfl rfl (by kernel_rfl) (by kernel_rfl) (by kernel_rfl) (fun _ _ _ h => h) (by rfl) (fun w hSw => ?_) (by assumption) ?_
      rotate_left
      · (try dsimp only at hSw); first | (go_simp; done) | (go_simp; with_reducible rfl)
      simp only [List.setIfInBounds_toArray, List.set_cons_zero, List.set_cons_succ]
      refine heldTake (v := ?_) 1 46 rfl rfl (by kernel_rfl) (by kernel_rfl) (by kernel_rfl) (fun _ _ _ h => h) (by rfl) (fun w hSw => ?_) (by assumption) ?_
      rotate_left
      · (try dsimp only at hSw); first | (go_simp; done) | (go_simp; with_reducible rfl)
      simp only [List.setIfInBounds_toArray, List.set_cons_zero, List.set_cons_succ]
      refine heldTake (v := ?_) 2 47 rfl rfl (by kernel_rfl) (by kernel_rfl) (by kernel_rfl) (fun _ _ _ h => h) (by rfl) (fun w hSw => ?_) (by assumption) ?_
      rotate_left
      · (try dsimp only at hSw); first | (go_simp; done) | (go_simp; with_reducible rfl)
      simp only [List.setIfInBounds_toArray, List.set_cons_zero, List.set_cons_succ]
      refine heldTake (v := ?_) 3 48 rfl rfl (by kernel_rfl) (by kernel_rfl) (by kernel_rfl) (fun _ _ _ h => h) (by rfl) (fun w hSw => ?_) (by assumption) ?_
      rotate_left
      · (try dsimp only at hSw); first | (go_simp; done) | (go_simp; with_reducible rfl)
      simp only [List.setIfInBounds_toArray, List.set_cons_zero, List.set_cons_succ]
      refine heldOne 4 rfl (by kernel_rfl) (by rfl) (fun K2 hK => ?_)
      go_simp
      refine (C3 _).mono ?_
      rintro e wz ⟨rfl, hw⟩
      simp only []
      subst hw
      refine hK.out _ _ ?_ (fun hHeld => ?_)
      · first | exact k3V hb (by assumption) | assumption
      clear hK K2
      try simp only [List.setIfInBounds_toArray, List.set_cons_zero, List.set_cons_succ]
      refine heldTake (v := ?_) 5 50 rfl rfl (by kernel_rfl) (by kernel_rfl) (by kernel_rfl) (fun _ _ _ h => h) (by rfl) (fun w hSw => ?_) (by assumption) ?_
      rotate_left
      · (try dsimp only at hSw); first | (go_simp; done) | (go_simp; with_reducible rfl)
      simp only [List.setIfInBounds_toArray, List.set_cons_zero, List.set_cons_succ]
      refine heldTake (v := ?_) 6 51 rfl rfl (by kernel_rfl) (by kernel_rfl) (by kernel_rfl) (fun _ _ _ h => h) (by rfl) (fun w hSw => ?_) (by assumption) ?_
      rotate_left
      · (try dsimp only at hSw); first | (go_simp; done) | (go_simp; with_reducible rfl)
      simp only [List.setIfInBounds_toArray, List.set_cons_zero, List.set_cons_succ]
      refine heldTake (v := ?_) 7 52 rfl rfl (by kernel_rfl) (by kernel_rfl) (by kernel_rfl) (fun _ _ _ h => h) (by rfl) (fun w hSw => ?_) (by assumption) ?_
      rotate_left
      · (try dsimp only at hSw); first | (go_simp; done) | (go_simp; with_reducible rfl)
      simp only [List.setIfInBounds_toArray, List.set_cons_zero, List.set_cons_succ]
      refine heldTake (v := ?_) 8 53 rfl rfl (by kernel_rfl) (by kernel_rfl) (by kernel_rfl) (fun _ _ _ h => h) (by rfl) (fun w hSw => ?_) (by assumption) ?_
      rotate_left
      · (try dsimp only at hSw); first | (go_simp; done) | (go_simp; with_reducible rfl)
      simp only [List.setIfInBounds_toArray, List.set_cons_zero, List.set_cons_succ]
      refine heldTake (v := ?_) 9 54 rfl rfl (by kernel_rfl) (by kernel_rfl) (by kernel_rfl) (fun _ _ _ h => h) (by rfl) (fun w hSw => ?_) (by assumption) ?_
      rotate_left
      · (try dsimp only at hSw); first | (go_simp; done) | (go_simp; with_reducible rfl)
      simp only [List.setIfInBounds_toArray, List.set_cons_zero, List.set_cons_succ]
      refine heldTake (v := ?_) 10 55 rfl rfl (by kernel_rfl) (by kernel_rfl) (by kernel_rfl) (fun _ _ _ h => h) (by rfl) (fun w hSw => ?_) (by assumption) ?_
      rotate_left
      · (try dsimp only at hSw); first | (go_simp; done) | (go_simp; with_reducible rfl)
      simp only [List.setIfInBounds_toArray, List.set_cons_zero, List.set_cons_succ]
      refine heldTake (v := ?_) 11 56 rfl rfl (by kernel_rfl) (by kernel_rfl) (by kernel_rfl) (fun _ _ _ h => h) (by rfl) (fun w hSw => ?_) (by assumption) ?_
      rotate_left
      · (try dsimp only at hSw); first | (go_simp; done) | (go_simp; with_reducible rfl)
      simp only [List.setIfInBounds_toArray, List.set_cons_zero, List.set_cons_succ]
      refine heldTake (v := ?_) 12 57 rfl rfl (by kernel_rfl) (by kernel_rfl) (by kernel_rfl) (fun _ _ _ h => h) (by rfl) (fun w hSw => ?_) (by assumption) ?_
      rotate_left
      · (try dsimp only at hSw); first | (go_simp; done) | (go_simp; with_reducible rfl)
      simp only [List.setIfInBounds_toArray, List.set_cons_zero, List.set_cons_succ]
      refine heldTake (v := ?_) 13 58 rfl rfl (by kernel_rfl) (by kernel_rfl) (by kernel_rfl) (fun _ _ _ h => h) (by rfl) (fun w hSw => ?_) (by assumption) ?_
      rotate_left
      · (try dsimp only at hSw); first | (go_simp; done) | (go_simp; with_reducible rfl)
      simp only [List.setIfInBounds_toArray, List.set_cons_zero, List.set_cons_succ]
      refine heldTake (v := ?_) 14 59 rfl rfl (by kernel_rfl) (by kernel_rfl) (by kernel_rfl) (fun _ _ _ h => h) (by rfl) (fun w hSw => ?_) (by assumption) ?_
      rotate_left
      · (try dsimp only at hSw); first | (go_simp; done) | (go_simp; with_reducible rfl)
      simp only [List.setIfInBounds_toArray, List.set_cons_zero, List.set_cons_succ]
      refine heldOne 15 rfl (by kernel_rfl) (by rfl) (fun K2 hK => ?_)
      go_simp
      refine (C _ (o3V (by assumption))).mono ?_
      rintro e wz ⟨rfl, hb⟩
      simp only []
      refine hK.out _ _ ?_ (fun hHeld => ?_)
      · first | exact k3V hb (by assumption) | assumption
      clear hK K2
      try simp only [List.setIfInBounds_toArray, List.set_cons_zero, List.set_cons_succ]
      refine heldTake (v := ?_) 16 61 rfl rfl (by kernel_rfl) (by kernel_rfl) (by kernel_rfl) (fun _ _ _ h => h) (by rfl) (fun w hSw => ?_) (by assumption) ?_
      rotate_left
      · (try dsimp only at hSw); first | (go_simp; done) | (go_simp; with_reducible rfl)
      simp only [List.setIfInBounds_toArray, List.set_cons_zero, List.set_cons_succ]
      refine heldTake (v := ?_) 17 62 rfl rfl (by kernel_rfl) (by kernel_rfl) (by kernel_rfl) (fun _ _ _ h => h) (by rfl) (fun w hSw => ?_) (by assumption) ?_
      rotate_left
      · (try dsimp only at hSw); first | (go_simp; done) | (go_simp; with_reducible rfl)
      simp only [List.setIfInBounds_toArray, List.set_cons_zero, List.set_cons_succ]
      refine heldTake (v := ?_) 18 63 rfl rfl (by kernel_rfl) (by kernel_rfl) (by kernel_rfl) (fun _ _ _ h => h) (by rfl) (fun w hSw => ?_) (by assumption) ?_
      rotate_left
      · (try dsimp only at hSw); first | (go_simp; done) | (go_simp; with_reducible rfl)
      simp only [List.setIfInBounds_toArray, List.set_cons_zero, List.set_cons_succ]
      refine heldTake (v := ?_) 19 64 rfl rfl (by kernel_rfl) (by kernel_rfl) (by kernel_rfl) (fun _ _ _ h => h) (by rfl) (fun w hSw => ?_) (by assumption) ?_
      rotate_left
      · (try dsimp only at hSw); first | (go_simp; done) | (go_simp; with_reducible rfl)
      simp only [List.setIfInBounds_toArray, List.set_cons_zero, List.set_cons_succ]
      refine heldTake (v := ?_) 20 65 rfl rfl (by kernel_rfl) (by kernel_rfl) (by kernel_rfl) (fun _ _ _ h => h) (by rfl) (fun w hSw => ?_) (by assumption) ?_
      rotate_left
      · (try dsimp only at hSw); first | (go_simp; done) | (go_simp; with_reducible rfl)
      simp only [List.setIfInBounds_toArray, List.set_cons_zero, List.set_cons_succ]
      refine heldTake (v := ?_) 21 66 rfl rfl (by kernel_rfl) (by kernel_rfl) (by kernel_rfl) (fun _ _ _ h => h) (by rfl) (fun w hSw => ?_) (by assumption) ?_
      rotate_left
      · (try dsimp only at hSw); first | (go_simp; done) | (go_simp; with_reducible rfl)
      simp only [List.setIfInBounds_toArray, List.set_cons_zero, List.set_cons_succ]
      refine heldTake (v := ?_) 22 67 rfl rfl (by kernel_rfl) (by kernel_rfl) (by kernel_rfl) (fun _ _ _ h => h) (by rfl) (fun w hSw => ?_) (by assumption) ?_
      rotate_left
      · (try dsimp only at hSw); first | (go_simp; done) | (go_simp; with_reducible rfl)
      simp only [List.setIfInBounds_toArray, List.set_cons_zero, List.set_cons_succ]
      refine heldTake (v := ?_) 23 4 rfl rfl (by kernel_rfl) (by kernel_rfl) (by kernel_rfl) (fun _ _ _ h => h) (by rfl) (fun w hSw => ?_) (by assumption) ?_
      rotate_left
      · (try dsimp only at hSw); first | (go_simp; done) | (go_simp; with_reducible rfl)
      simp only [List.setIfInBounds_toArray, List.set_cons_zero, List.set_cons_succ]
      refine wpAnyH_done (by kernel_rfl) ?_ _
      have HB9 : Hid (Below w.heap.size w _) := hHeld.2.2.2
      clear hHeld
      go_wp2
      go_ret
      exact ⟨by simp [h2], HB9.out⟩

end Go.Proofs.Ytmcbdfmajciklaa

namespace Go.Proofs.Ytmcbdfmajciklaa
open Go.RowKit Go.Lib
set_option linter.unusedVariables false

/-- A table's columns. -/
def colsF (L : List (List Int)) (t : Int) : List Int := L[t.toNat]?.getD []

/-- Can it be done to a row of one of these forms? -/
def withinF (L : List (List Int)) (x : PO) : Bool :=
  placeF L.length x.table && keyF x.key &&
    (if x.kind = 1 then putF x.vals (colsF L x.table) && decide (x.col = 0) && decide (x.dots.length = 0)
     else if x.kind = 2 then placeF (colsF L x.table).length x.col && (putF x.vals [(colsF L x.table)[x.col.toNat]?.getD 0] && decide (x.dots.length = 0))
     else if x.kind = 3 then remF x.deps x.dots && decide (x.col = 0) && decide (x.vals.length = 0)
     else false)

/-- op.Check's answer. -/
def checkF (n : Int) (L : List (List Int)) (x : PO) : Int := if formsF L ≠ 0 then formsF L else if (decide (1 ≤ n ∧ n ≤ 5) && issuedF n x && withinF L x) = true then 0 else 1

theorem opWithin_any (af : Option Addr) (nf fcap : Nat) (L : List (List Int)) (x : PO) (da va oa : Option Addr) (dc vc oc : Nat) (w : World) (hn : L.length = nf) (hnf : nf ≤ 65536) (hv : ∀ v ∈ L, v.length ≤ 65536) (hr : RdII w af L) (h : LiesO w x da va oa dc vc oc) (hx : I64O x) :
    Calls Try.prog 51 #[.slice af nf fcap, .agg (cellsO x da va oa dc vc oc)] w fun e w' => e = .returned (.bool (withinF L x)) ∧ Below w.heap.size w w' := by
  subst hn
  obtain ⟨dp, dn, deps, sp, sl, sq, kind, table, key, col, vals, dots⟩ := x
  unfold withinF
  simp only [cellsO]
  cases h0 : (placeF L.length table && keyF key) with
  | false => exact opWithin_out dp dn sp sl sq kind table col key da va oa deps.length vals.length dots.length dc vc oc af L.length fcap w h.key h0
  | true =>
    rw [Bool.true_and]
    obtain ⟨hp, hkey⟩ := Bool.and_eq_true_iff.1 h0
    have hp' : 0 ≤ table ∧ table < (L.length : Int) := by simpa [placeF] using hp
    obtain ⟨z, rfl⟩ : ∃ z : Nat, table = z := ⟨table.toNat, by omega⟩
    have hz : z < L.length := by omega
    obtain ⟨bf, of_, rfl, hc⟩ := hr (by omega)
    obtain ⟨u, hcell, ac, cc, rfl, hcc, hrc, hnc⟩ := hc z hz
    have hcl := hv _ (List.getElem_mem hz)
    have ecols : colsF L (z : Int) = L[z] := by
      unfold colsF
      rw [show ((z : Int).toNat) = z from by omega, List.getElem?_eq_getElem hz]
      rfl
    rw [ecols]
    by_cases k1 : kind = 1
    · rw [if_pos k1]
      exact opWithin_ins dp dn sp sl sq kind z col key da va oa deps.length vals.length dots.length dc vc oc bf of_ L.length fcap z ac L[z].length cc _ w h.key hkey rfl hz hnf k1 hcell (fun W hb => opPut_any va ac vals.length L[z].length vc cc vals L[z] W rfl rfl h.lv hcl (h.vals.later hb) (hrc.later hb))
    rw [if_neg k1]
    by_cases k2 : kind = 2
    · rw [if_pos k2]
      subst k2
      cases hpc : placeF L[z].length col with
      | false => exact opWithin_updNo dp dn sp sl sq key da va oa deps.length vals.length dots.length dc vc oc col bf of_ L.length fcap z ac L[z].length cc w h.key hkey hz hnf hcl hcell hpc
      | true =>
        rw [Bool.true_and]
        have hpc' : 0 ≤ col ∧ col < (L[z].length : Int) := by simpa [placeF] using hpc
        obtain ⟨j, rfl⟩ : ∃ j : Nat, col = j := ⟨col.toNat, by omega⟩
        have hj : j < L[z].length := by omega
        obtain ⟨bc, ob, rfl, hcs⟩ := hrc (by omega)
        have ej : L[z][(j : Int).toNat]?.getD 0 = L[z][j] := by
          rw [show ((j : Int).toNat) = j from by omega, List.getElem?_eq_getElem hj]
          rfl
        rw [ej]
        refine opWithin_upd dp dn sp sl sq key da va oa deps.length vals.length dots.length dc vc oc j _ bf of_ L.length fcap z bc ob L[z].length cc w h.key hkey hz hnf hcl hj hcc hcell (fun W hb => opPut_any va (some ⟨bc, ob + j, none⟩) vals.length 1 vc (cc - j) vals [L[z][j]] W rfl rfl h.lv (by omega) (h.vals.later hb) ?_)
        refine fun _ => ⟨bc, ob + j, rfl, fun i hi => ?_⟩
        obtain rfl : i = 0 := by simp at hi; omega
        exact cell_later hb (hcs j hj)
    rw [if_neg k2]
    by_cases k3 : kind = 3
    · rw [if_pos k3]
      exact opWithin_del dp dn sp sl sq kind z col key da va oa deps.length vals.length dots.length dc vc oc bf of_ L.length fcap z ac L[z].length cc _ w h.key hkey rfl hz hnf k3 hcell (fun W hb => opRem_any oa da dots.length deps.length oc dc dots deps W rfl h.lo rfl h.ld (h.dots.later hb) (h.deps.later hb) hx.deps hx.dots)
    rw [if_neg k3]
    exact opWithin_none dp dn sp sl sq kind z col key da va oa deps.length vals.length dots.length dc vc oc bf of_ L.length fcap z ac L[z].length cc w h.key hkey rfl hz hnf ⟨k1, k2, k3⟩ hcell

theorem opCheck_any (n : Int) (af : Option Addr) (nf fcap : Nat) (L : List (List Int)) (x : PO) (da va oa : Option Addr) (dc vc oc : Nat) (w : World) (hn : L.length = nf) (hnf : nf ≤ 65536) (hv : ∀ v ∈ L, v.length ≤ 65536) (hr : RdII w af L) (h : LiesO w x da va oa dc vc oc) (hx : I64O x) :
    Calls Try.prog 17 #[.int .i64 n, .slice af nf fcap, .agg (cellsO x da va oa dc vc oc)] w fun e w' => e = .returned (.int .i64 (checkF n L x)) ∧ Below w.heap.size w w' :=
  opCheck_of x.dp x.dn x.sp x.sl x.sq x.kind x.table x.col x.key da va oa x.deps.length x.vals.length x.dots.length dc vc oc n af nf fcap (formsF L) (issuedF n x) (withinF L x) w
    (fun W hb => opForms_any af nf fcap L W hn hnf hv (hr.later hb)) (fun W hb => opIssued_any n x da va oa dc vc oc W (h.later hb) hx) (fun W hb => opWithin_any af nf fcap L x da va oa dc vc oc W hn hnf hv (hr.later hb) (h.later hb) hx)

end Go.Proofs.Ytmcbdfmajciklaa

namespace Go.Proofs.Ytmcbdfmajciklaa
open Go.RowKit Go.Lib
set_option linter.unusedVariables false

theorem formsF_ok {L : List (List Int)} (h : formsF L = 0) : 1 ≤ L.length ∧ L.length ≤ 3 ∧ L.all widthF = true ∧ L.all (fun v => v.all typeF) = true := by
  unfold formsF at h
  by_cases h1 : L.length < 1 ∨ 3 < L.length
  · rw [if_pos h1] at h
    exact absurd h (by decide)
  rw [if_neg h1] at h
  by_cases h2 : L.all widthF = true
  · rw [if_pos h2] at h
    by_cases h3 : L.all (fun v => v.all typeF) = true
    · exact ⟨by omega, by omega, h2, h3⟩
    · rw [if_neg h3] at h
      exact absurd h (by decide)
  · rw [if_neg h2] at h
    exact absurd h (by decide)

theorem cols_few {L : List (List Int)} (h : formsF L = 0) (t : Int) : (colsF L t).length ≤ 4 := by
  obtain ⟨_, _, h3, _⟩ := formsF_ok h
  unfold colsF
  rcases Nat.lt_or_ge t.toNat L.length with hl | hl
  · rw [List.getElem?_eq_getElem hl, Option.getD_some]
    have := (List.all_eq_true.1 h3) _ (List.getElem_mem hl)
    unfold widthF at this
    have := of_decide_eq_true this
    omega
  · rw [List.getElem?_eq_none hl]
    exact Nat.zero_le _

theorem smallV_ok {v : PV} (h : smallV v = true) : okV v = true := by
  unfold smallV at h
  exact (Bool.and_eq_true_iff.1 h).1

theorem putF_chk {vs : List PV} {ts : List Int} (h : putF vs ts = true) (h4 : ts.length ≤ 4) : chkR vs = 0 := by
  unfold putF at h
  obtain ⟨h1, h2⟩ := Bool.and_eq_true_iff.1 h
  have := fitsR_len h1
  refine chkR_ok.2 ⟨by omega, ?_⟩
  rw [List.all_eq_true] at h2 ⊢
  exact fun v hv => smallV_ok (h2 v hv)

theorem fitsF_of {n : Int} {s : Nat} (h0 : 0 ≤ n) (h : n < ((256 ^ s : Nat) : Int)) : fitsF n s = true := decide_eq_true ⟨h0, h⟩

theorem checkF_ok {n : Int} {L : List (List Int)} {x : PO} (h : checkF n L x = 0) : formsF L = 0 ∧ 1 ≤ n ∧ n ≤ 5 ∧ issuedF n x = true ∧ withinF L x = true := by
  unfold checkF at h
  by_cases hf : formsF L ≠ 0
  · rw [if_pos hf] at h
    exact absurd h hf
  rw [if_neg hf] at h
  by_cases hc : (decide (1 ≤ n ∧ n ≤ 5) && issuedF n x && withinF L x) = true
  · simp only [Bool.and_eq_true, decide_eq_true_eq] at hc
    exact ⟨by omega, hc.1.1.1, hc.1.1.2, hc.1.2, hc.2⟩
  · rw [if_neg hc] at h
    exact absurd h (by decide)

theorem issuedF_ok {n : Int} {x : PO} (h : issuedF n x = true) : (x.deps.length : Int) = n ∧ x.deps.length ≤ 5 ∧ rightD x.deps = true ∧ (∃ (q : Nat) (hq : q < x.deps.length), x.dp = q ∧ x.dn = x.deps[q] + 1) ∧ x.dn ≤ 1073741824 ∧ okS ⟨x.sp, x.sl, x.sq⟩ = true ∧ x.sq = x.dp := by
  unfold issuedF at h
  simp only [Bool.and_eq_true, decide_eq_true_eq] at h
  obtain ⟨⟨⟨⟨⟨h1, h2⟩, h3⟩, h4⟩, h5⟩, h6⟩ := h
  obtain ⟨c1, c2, c3⟩ := chkD_ok.1 h2
  unfold nextD at h3
  simp only [Bool.and_eq_true, decide_eq_true_eq] at h3
  obtain ⟨q, hq, e1, e2⟩ := atD_at h3.1
  refine ⟨h1, c2, c3, ⟨q, hq, e1, by rw [h3.2, e2]⟩, h4, ?_, h6⟩
  cases hs : okS ⟨x.sp, x.sl, x.sq⟩ with
  | true => rfl
  | false =>
    unfold chkS at h5
    rw [hs] at h5
    exact absurd h5 (by decide)

theorem remF_ok {deps : List Int} {ds : List (Int × Int)} (h : remF deps ds = true) : 1 ≤ ds.length ∧ ds.length ≤ 64 ∧ ∀ d ∈ ds, hasD deps d.1 d.2 = true := by
  unfold remF at h
  simp only [Bool.and_eq_true, decide_eq_true_eq, List.all_eq_true, List.mem_range] at h
  obtain ⟨⟨h1, h2⟩, h3⟩ := h
  refine ⟨h1, h2, fun d hd => ?_⟩
  obtain ⟨i, hi, rfl⟩ := List.mem_iff_getElem.1 hd
  have := h3 i hi
  unfold stepF at this
  rw [List.getElem?_eq_getElem hi, Option.getD_some] at this
  exact (Bool.and_eq_true_iff.1 this).1

theorem hasD_fits {deps : List Int} {d : Int × Int} (hr : rightD deps = true) (h5 : deps.length ≤ 5) (h : hasD deps d.1 d.2 = true) : fitsD d = true := by
  unfold hasD at h
  simp only [Bool.and_eq_true, decide_eq_true_eq] at h
  obtain ⟨q, hq, e1, e2⟩ := atD_at h.1
  have := rightD_at hr hq
  rw [e2] at h
  unfold fitsD
  rw [fitsF_of (by omega) (by omega), fitsF_of (by omega) (by omega)]
  rfl

/-- What may be can be written. -/
theorem check_fits {n : Int} {L : List (List Int)} {x : PO} (h : checkF n L x = 0) : fitsO x = true := by
  obtain ⟨hf, hn1, hn5, hi, hw⟩ := checkF_ok h
  obtain ⟨i1, i2, i3, ⟨q, hq, i4, i5⟩, i6, i7, i8⟩ := issuedF_ok hi
  have hd := rightD_at i3 hq
  have hs := of_decide_eq_true i7
  simp only at hs
  obtain ⟨f1, f2, _, _⟩ := formsF_ok hf
  unfold withinF at hw
  simp only [Bool.and_eq_true] at hw
  obtain ⟨⟨w1, w2⟩, w3⟩ := hw
  have w1' := of_decide_eq_true w1
  have w2' := of_decide_eq_true w2
  have a1 : fitsD (x.dp, x.dn) = true := by
    unfold fitsD
    simp only
    rw [fitsF_of (by omega) (by omega), fitsF_of (by omega) (by omega)]
    rfl
  have a2 : fitsVec x.deps = true := by
    unfold fitsVec
    rw [decide_eq_true i2, Bool.and_true, List.all_eq_true]
    intro v hv
    obtain ⟨i, hi, rfl⟩ := List.mem_iff_getElem.1 hv
    have := rightD_at i3 hi
    exact fitsF_of (by omega) (by omega)
  have a3 : fitsS x.sp x.sl x.sq = true := by
    unfold fitsS
    rw [fitsF_of (by omega) (by omega), fitsF_of (by omega) (by omega), fitsF_of (by omega) (by omega)]
    rfl
  have a4 : fitsF x.table 1 = true := fitsF_of (by omega) (by omega)
  have a5 : decide (x.key.size ≤ 24) = true := decide_eq_true (by omega)
  have rest : fitsF x.kind 1 = true ∧ fitsF x.col 1 = true ∧ decide (chkR x.vals = 0) = true ∧ decide (x.dots.length ≤ 64) = true ∧ x.dots.all fitsD = true := by
    have hcols := cols_few hf x.table
    by_cases k1 : x.kind = 1
    · rw [if_pos k1] at w3
      simp only [Bool.and_eq_true, decide_eq_true_eq] at w3
      obtain ⟨⟨p1, p2⟩, p3⟩ := w3
      have e : x.dots = [] := List.eq_nil_of_length_eq_zero p3
      exact ⟨fitsF_of (by omega) (by omega), fitsF_of (by omega) (by omega), decide_eq_true (putF_chk p1 hcols), by rw [e]; rfl, by rw [e]; rfl⟩
    rw [if_neg k1] at w3
    by_cases k2 : x.kind = 2
    · rw [if_pos k2] at w3
      simp only [Bool.and_eq_true, decide_eq_true_eq] at w3
      obtain ⟨p1, p2, p3⟩ := w3
      have p1' := of_decide_eq_true p1
      have e : x.dots = [] := List.eq_nil_of_length_eq_zero p3
      exact ⟨fitsF_of (by omega) (by omega), fitsF_of (by omega) (by omega), decide_eq_true (putF_chk p2 (by simp)), by rw [e]; rfl, by rw [e]; rfl⟩
    rw [if_neg k2] at w3
    by_cases k3 : x.kind = 3
    · rw [if_pos k3] at w3
      simp only [Bool.and_eq_true, decide_eq_true_eq] at w3
      obtain ⟨⟨p1, p2⟩, p3⟩ := w3
      obtain ⟨r1, r2, r3⟩ := remF_ok p1
      have e : x.vals = [] := List.eq_nil_of_length_eq_zero p3
      exact ⟨fitsF_of (by omega) (by omega), fitsF_of (by omega) (by omega), by rw [e]; rfl, decide_eq_true r2, List.all_eq_true.2 fun d hd => hasD_fits i3 i2 (r3 d hd)⟩
    · rw [if_neg k3] at w3
      cases w3
  obtain ⟨b1, b2, b3, b4, b5⟩ := rest
  unfold fitsO
  rw [b1, a1, a2, a3, a4, a5, b2, b3, b4, b5]
  rfl

/-- HeavyForms' answer. -/
def heavyFs (L : List (List Int)) : Bool := decide (30 < L.length) || L.any fun v => decide (30 < v.length)

set_option maxRecDepth 100000 in
set_option maxHeartbeats 1000000 in
theorem heavyForms_any (a : Option Addr) (n cap : Nat) (L : List (List Int)) (w : World) (hn : L.length = n) (hl : n ≤ 9223372036854775807) (hv : ∀ v ∈ L, v.length ≤ 9223372036854775807) (hr : RdII w a L) :
    Calls Try.prog 15 #[.slice a n cap] w fun e w' => e = .returned (.bool (heavyFs L)) ∧ w' = w := by
  by_cases h30 : 30 < n
  · have e : heavyFs L = true := by unfold heavyFs; rw [decide_eq_true (by omega), Bool.true_or]
    rw [e]
    have hd : decide ((30 : Int) < (n : Int)) = true := by simp; omega
    clear hn hr e hv
    go_enter Try.func15, Try.ntmps15
    go_wp2
    go_ret
    exact ⟨rfl, rfl⟩
  have hd : decide ((30 : Int) < (n : Int)) = false := by simp; omega
  have HE : Hid (heavyFs L = L.any fun v => decide (30 < v.length)) := by show _ = _; unfold heavyFs; rw [decide_eq_false (by omega), Bool.false_or]
  have HN : Hid (L.length = n) := hn
  have HR : Hid (RdII w a L) := hr
  have HV : Hid (∀ v ∈ L, v.length ≤ 9223372036854775807) := hv
  clear hn hr hv
  go_enter Try.func15, Try.ntmps15
  go_wp2
  go_loop [3] (fun i => ∃ k : Nat, k ≤ n ∧ i = .int .i64 k ∧ Hid ((L.take k).any (fun v => decide (30 < v.length)) = false)) (fun i => n - (RowKit.intOf i).toNat)
  case atStart => exact ⟨0, Nat.zero_le _, rfl, rfl⟩
  case round =>
    obtain ⟨k, hk, rfl, hT⟩ := hrel
    by_cases hlt : k < n
    · have hkl : k < L.length := by rw [HN.out]; exact hlt
      obtain ⟨b, off, rfl, hc⟩ := HR.out (by omega)
      obtain ⟨u, x0, a2, cap2, rfl, hc2, hr2, hn2⟩ := hc k hkl
      have HS : Hid ((L.take (k + 1)).any (fun v => decide (30 < v.length)) = decide (30 < L[k].length)) := by
        have h := hT.out
        show _ = _
        rw [List.take_succ_eq_append_getElem hkl, List.any_append, h]
        simp
      have HX : Hid (30 < L[k].length → heavyFs L = true) := fun h => by
        rw [HE.out, List.any_eq_true]
        exact ⟨_, List.getElem_mem hkl, decide_eq_true h⟩
      have hlk := HV.out _ (List.getElem_mem hkl)
      clear hc hc2 hr2 hn2
      generalize L[k].length = m at *
      clear hkl
      by_cases c1 : 30 < m
      · have d1 : decide ((30 : Int) < (m : Int)) = true := by simp; omega
        have HX' : Hid (heavyFs L = true) := HX.out c1
        clear HS HX
        go_wp2
        go_ret
        exact ⟨by rw [HX'.out]; rfl, rfl⟩
      · have d1 : decide ((30 : Int) < (m : Int)) = false := by simp; omega
        have HS' : Hid ((L.take (k + 1)).any (fun v => decide (30 < v.length)) = false) := by rw [HS.out]; exact decide_eq_false c1
        clear HS HX
        go_wp2
        go_round
        case rel => exact ⟨k + 1, by omega, by go_num, HS'⟩
        case measure => simp [RowKit.intOf]; omega
    · have h := hT.out
      rw [List.take_of_length_le (by rw [HN.out]; omega)] at h
      have HH : Hid (heavyFs L = false) := HE.out.trans h
      clear h
      go_wp2
      go_ret
      exact ⟨by rw [HH.out]; rfl, rfl⟩

theorem light_forms {L : List (List Int)} (h : heavyFs L = false) : L.length ≤ 30 ∧ ∀ v ∈ L, v.length ≤ 30 := by
  unfold heavyFs at h
  simp only [Bool.or_eq_false_iff, decide_eq_false_iff_not, List.any_eq_false, decide_eq_true_eq] at h
  exact ⟨by omega, fun v hv => by have := h.2 v hv; omega⟩

/-- Two operations in a block of their own. -/
theorem rdO_two {w : World} {b : Nat} {x y : PO} {da va oa da' va' oa' : Option Addr} {dc vc oc dc' vc' oc' : Nat} {t : TypeId} {cs : Array Value} (hcs : cs = cellsO x da va oa dc vc oc ++ cellsO y da' va' oa' dc' vc' oc') (hc : CellsAt w b cs t) (hi : InO w x da va oa dc vc oc) (hj : InO w y da' va' oa' dc' vc' oc') : RdO w (some ⟨b, 0, none⟩) [x, y] := fun _ =>
  ⟨b, 0, rfl, fun i h => by
    have h2 : i < 2 := h
    rcases (by omega : i = 0 ∨ i = 1) with rfl | rfl
    · refine ⟨da, va, oa, dc, vc, oc, fun j v hj' => ?_, hi⟩
      have := hc.cell j
      have hj2 : (cellsO x da va oa dc vc oc)[j]? = some v := hj'
      rw [show 0 + 0 * 12 + j = j by omega, this, hcs, Array.getElem?_append_left ((Array.getElem?_eq_some_iff.1 hj2).1)]
      exact hj2
    · refine ⟨da', va', oa', dc', vc', oc', fun j v hj' => ?_, hj⟩
      have := hc.cell (12 + j)
      rw [show 0 + 1 * 12 + j = 12 + j by omega, this, hcs, Array.getElem?_append_right (by show 12 ≤ _; omega), show 12 + j - (cellsO x da va oa dc vc oc).size = j by show 12 + j - 12 = j; omega]
      exact hj'⟩

theorem modToO (k m : Int) (h : 0 < m) (h' : m ≤ 4611686018427387904) : ∃ v : Int, wrap64 ((IntKind.u64.wrap k).tmod m) = v ∧ 0 ≤ v ∧ v < m := by
  have h0 : 0 ≤ IntKind.u64.wrap k := by rw [IntKind.wrap_u64]; omega
  have h2 : (IntKind.u64.wrap k).tmod m = IntKind.u64.wrap k % m := Int.tmod_eq_emod_of_nonneg h0
  have h3 := Int.emod_nonneg (IntKind.u64.wrap k) (show m ≠ 0 by omega)
  have h4 := Int.emod_lt_of_pos (IntKind.u64.wrap k) h
  refine ⟨IntKind.u64.wrap k % m, ?_, h3, h4⟩
  rw [h2]
  exact IntWalk.wrap64_in _ ⟨by omega, by omega⟩

theorem placeToO (k : Int) (m : Nat) (h : 1 ≤ m) (h' : m ≤ 1048576) : ∃ j : Nat, j < m ∧ wrap64 ((IntKind.u64.wrap k).tmod (m : Int)) = (j : Int) := by
  obtain ⟨v, h1, h2, h3⟩ := modToO k m (by omega) (by omega)
  exact ⟨v.toNat, by omega, by rw [h1]; omega⟩

/-- Nothing, with no lists. -/
theorem lies_noO (w : World) : LiesO w noO none none none 0 0 0 :=
  ⟨(fun h => absurd h (by simp [noO])), (fun h => absurd h (by simp [noO])), (fun h => absurd h (by simp [noO])), by simp [noO], by simp [noO], by simp [noO], by simp [noO], by simp [noO], by simp [noO], fun _ => ⟨rfl, rfl⟩, fun _ => ⟨rfl, rfl⟩, fun _ => ⟨rfl, rfl⟩, (by show (0 : Nat) ≤ _; omega)⟩

end Go.Proofs.Ytmcbdfmajciklaa

namespace Go.Proofs.Ytmcbdfmajciklaa
open Go.RowKit Go.Lib
set_option linter.unusedVariables false

set_option maxRecDepth 100000 in
set_option maxHeartbeats 8000000 in
theorem oreads_walk (a : Option Addr) (len cap : Nat) (l : List UInt8) (p : Int) (w : World) (hlen : l.length = len) (hl : len ≤ 9223372036854775807) (hcap : len ≤ cap) (hr : Rd w a l) (hnil : a = none → l = [] ∧ cap = 0) :
    Calls Try.prog 3 #[.slice a len cap, .int .i64 p] w fun e w' => e = .returned (.bool true) ∧ Below w.heap.size w w' := by
  by_cases h800 : 800 < len
  · have hd : decide ((800 : Int) < (len : Int)) = true := by simp; omega
    clear hlen hr hnil
    go_enter Try.func3, Try.ntmps3
    go_wp2
    go_ret
    exact ⟨rfl, Below.refl _ _⟩
  have hd : decide ((800 : Int) < (len : Int)) = false := by simp; omega
  have HR : Hid (Rd w a l) := hr
  have HL : Hid (l.length = len) := hlen
  have C1 := twin_any a len cap l w hlen (by omega) hnil hr
  have C2 := fun (V : World) (ta : Option Addr) (tc : Nat) (h1 : Rd V ta l) (h2 : ∀ b o, ta = some ⟨b, o, none⟩ → b < V.heap.size) (h3 : len ≤ tc) => opRead_any ta len tc l p V h1 h2 hlen (by omega) h3
  have C3 := fun (V : World) (hb : Below w.heap.size w V) => rReadOp_any a len cap l p V hlen (by omega) hcap (hr.later hb)
  have hinv : (readO l p).2.2 = 0 → ∃ q : Nat, p = q ∧ okO (readO l p).1 ∧ Stands l q (bytesO (readO l p).1) ∧ (readO l p).2.1 = (q : Int) + ((bytesO (readO l p).1).length : Int) := fun h => readO_inv h
  have HI : Hid _ := hinv
  generalize readO l p = R at *
  obtain ⟨x, n, er⟩ := R
  have HI2 : Hid (er = 0 → ∃ q : Nat, p = q ∧ okO x ∧ Stands l q (bytesO x) ∧ n = (q : Int) + ((bytesO x).length : Int)) := hinv
  clear HI hinv hr hnil hlen
  go_enter Try.func3, Try.ntmps3
  go_wp2_with fail
  refine C1.mono ?_
  rintro e w1 ⟨ta, tc, rfl, htc, hown, htn, htr, hb1⟩
  have HB1 : Hid (Below w.heap.size w w1) := hb1
  have HT1 : Hid (Rd w1 ta l) := htr
  have C2' := C2 w1 ta tc htr (fun b o e => by subst e; exact (World.ownsRow.lt hown b rfl).2) htc
  clear C1 C2 hb1 htr hown htn
  go_wp2_with fail
  refine C2'.mono ?_
  rintro e w2 ⟨da, va, oa, dc, vc, oc, rfl, hL2, hb2⟩
  simp only at hL2
  obtain ⟨X, hX⟩ : ∃ X, X = w2.alloc (.cells #[.int .i64 x.dp, .int .i64 x.dn, .slice da x.deps.length dc, .int .i64 x.sp, .int .i64 x.sl, .int .i64 x.sq, .int .i64 x.kind, .int .i64 x.table, .string x.key, .int .i64 x.col, .slice va x.vals.length vc, .slice oa x.dots.length oc] 32) := ⟨_, rfl⟩
  have hbX : Below w2.heap.size w2 X := by rw [hX]; exact alloc_below _ _
  have HKX : Hid (CellsAt X w2.heap.size #[.int .i64 x.dp, .int .i64 x.dn, .slice da x.deps.length dc, .int .i64 x.sp, .int .i64 x.sl, .int .i64 x.sq, .int .i64 x.kind, .int .i64 x.table, .string x.key, .int .i64 x.col, .slice va x.vals.length vc, .slice oa x.dots.length oc] 32) := by rw [hX]; exact CellsAt.made rfl
  have HLX : Hid (LiesO X x da va oa dc vc oc) := hL2.later hbX
  have HBX : Hid (Below w.heap.size w X) := chain HB1.out (chain hb2 hbX)
  have HTX : Hid (Rd X ta l) := HT1.out.later (chain hb2 hbX)
  have HXX : Hid (X = w2.alloc (.cells #[.int .i64 x.dp, .int .i64 x.dn, .slice da x.deps.length dc, .int .i64 x.sp, .int .i64 x.sl, .int .i64 x.sq, .int .i64 x.kind, .int .i64 x.table, .string x.key, .int .i64 x.col, .slice va x.vals.length vc, .slice oa x.dots.length oc] 32)) := hX
  have C3' := C3 X HBX.out
  clear C2' C3 hX hbX hL2 hb2 HB1 HT1
  simp only [cellsO]
  go_wp2_with fail
  rw [← HXX.out]
  refine C3'.mono ?_
  rintro e w3 ⟨da', va', oa', dc', vc', oc', rfl, hL3, hb3⟩
  simp only at hL3
  obtain ⟨Y, hY⟩ : ∃ Y, Y = w3.alloc (.cells #[.int .i64 x.dp, .int .i64 x.dn, .slice da' x.deps.length dc', .int .i64 x.sp, .int .i64 x.sl, .int .i64 x.sq, .int .i64 x.kind, .int .i64 x.table, .string x.key, .int .i64 x.col, .slice va' x.vals.length vc', .slice oa' x.dots.length oc'] 32) := ⟨_, rfl⟩
  have hbY : Below w3.heap.size w3 Y := by rw [hY]; exact alloc_below _ _
  have hKY : CellsAt Y w3.heap.size #[.int .i64 x.dp, .int .i64 x.dn, .slice da' x.deps.length dc', .int .i64 x.sp, .int .i64 x.sl, .int .i64 x.sq, .int .i64 x.kind, .int .i64 x.table, .string x.key, .int .i64 x.col, .slice va' x.vals.length vc', .slice oa' x.dots.length oc'] 32 := by rw [hY]; exact CellsAt.made rfl
  have hLY := hL3.later hbY
  have HXY : Hid (Below X.heap.size X Y) := chain hb3 hbY
  have HYY : Hid (Y = w3.alloc (.cells #[.int .i64 x.dp, .int .i64 x.dn, .slice da' x.deps.length dc', .int .i64 x.sp, .int .i64 x.sl, .int .i64 x.sq, .int .i64 x.kind, .int .i64 x.table, .string x.key, .int .i64 x.col, .slice va' x.vals.length vc', .slice oa' x.dots.length oc'] 32)) := hY
  have C4 := keepOp_same x da va oa da' va' oa' dc vc oc dc' vc' oc' Y (HLX.out.later HXY.out) hLY
  have C5 := fun (V : World) (hb : Below X.heap.size X V) => bytes_any ta a len len tc cap l l V HL.out HL.out (by omega) (by omega) (HTX.out.later hb) (HR.out.later (chain HBX.out hb))
  simp only [decide_true] at C5
  obtain ⟨f0, f1, f2, f3, f4, f5, f6, f7, f8, f9, f10, f11⟩ := cellsO_at (HKX.out.later HXY.out)
  obtain ⟨g0, g1, g2, g3, g4, g5, g6, g7, g8, g9, g10, g11⟩ := cellsO_at hKY
  clear C3' HXX hbY hKY hLY hL3 hb3
  simp only [cellsO]
  clear HYY
  subst hY
  go_wp2_with fail
  refine C4.mono ?_
  rintro e w4 ⟨rfl, hb4⟩
  have HX4 : Hid (Below X.heap.size X w4) := chain HXY.out hb4
  have C5' := C5 w4 HX4.out
  clear C4 C5 hb4 f0 f1 f2 f3 f4 f5 f6 f7 f8 f9 f10 f11 g0 g1 g2 g3 g4 g5 g6 g7 g8 g9 g10 g11 HXY
  go_wp2_with fail
  refine C5'.mono ?_
  rintro e w5 ⟨rfl, hb5⟩
  have HX5 : Hid (Below X.heap.size X w5) := chain HX4.out hb5
  clear hb5 C5' HX4
  by_cases h0 : er = 0
  · obtain ⟨q, rfl, ok, st, rfl⟩ := HI2.out h0
    subst h0
    have hpos := bytesO_pos x
    have hle := st.le hpos
    rw [HL.out] at hle
    have C6 := opBytes_any x da va oa dc vc oc w5 (HLX.out.later HX5.out)
    rw [putO_yes ((okO_iff x).1 ok)] at C6
    have hcutE : (l.drop q).take (bytesO x).length = bytesO x := by
      obtain ⟨r, hr⟩ := st
      rw [hr, List.take_left]
    have hra : Rd w5 a l := HR.out.later (chain HBX.out HX5.out)
    obtain ⟨ab, ao, rfl, -⟩ := hra (by rw [HL.out]; omega)
    have HRC : Hid (Rd w5 (some ⟨ab, ao + q, none⟩) (bytesO x)) := by
      have := hra.cut q (bytesO x).length
      rw [hcutE] at this
      exact this
    have HBL : Hid ((bytesO x).length = (bytesO x).length) := rfl
    generalize hbk : bytesO x = bx at *
    generalize hkk : bx.length = k at *
    have HKK : Hid (bx.length = k) := hkk
    have e1 : (cap = q) = False := by simp; omega
    have e2 : ((q : Int) + (k : Int)).toNat - q = k := by omega
    have k0 : (0 : Int) ≤ (q : Int) := by omega
    have k1 : (q : Int) ≤ (q : Int) + (k : Int) := by omega
    have k2 : (q : Int) + (k : Int) ≤ (len : Int) := by omega
    have k3 : (q : Int) + (k : Int) ≤ (cap : Int) := by omega
    obtain ⟨f0, f1, f2, f3, f4, f5, f6, f7, f8, f9, f10, f11⟩ := cellsO_at (HKX.out.later HX5.out)
    clear hbk hkk hcutE hra st ok HI2 HBL hpos
    go_wp2_with fail
    refine C6.mono ?_
    rintro e w6 ⟨ca, cn, cc, rfl, hcn, hcl, hcc, hcr, hcnil, hb6⟩
    simp only at hcn hcr
    rw [HKK.out] at hcn
    subst hcn
    have HX6 : Hid (Below X.heap.size X w6) := chain HX5.out hb6
    have C7 := bytes_any ca (some ⟨ab, ao + q, none⟩) k k cc (cap - q) bx bx w6 HKK.out HKK.out (by omega) (by omega) hcr (HRC.out.later hb6)
    simp only [decide_true] at C7
    clear C6 hb6 hcr hcnil HRC HX5 f0 f1 f2 f3 f4 f5 f6 f7 f8 f9 f10 f11
    go_wp2_with fail
    refine C7.mono ?_
    rintro e w7 ⟨rfl, hb7⟩
    have HX7 : Hid (Below X.heap.size X w7) := chain HX6.out hb7
    clear hb7 C7
    go_wp2_with fail
    refine (owakes_any _).mono ?_
    rintro e w8 ⟨rfl, hb8⟩
    go_wp2
    go_ret
    exact ⟨by simp, chain HBX.out (chain HX7.out hb8)⟩
  · have d0 : (er != 0) = true := by simpa using h0
    clear HI2
    go_wp2_with fail
    refine (owakes_any _).mono ?_
    rintro e w8 ⟨rfl, hb8⟩
    go_wp2
    go_ret
    exact ⟨rfl, chain HBX.out (chain HX5.out hb8)⟩

end Go.Proofs.Ytmcbdfmajciklaa
