/-
  ValueExact's walk: what the law answers, whatever its values and its type.
-/
import Derived.Test.YtfjckfjaekpffaaRows
import Derived.Test.YtfjckfjaekpffaaVLaws
import Derived.Test.YtfjckfjaekpffaaVOrder
import Derived.Test.YtfjckfjaekpffaaHeld
namespace Go.Proofs.Ytfjckfjaekpffaa
open Go.RowKit Go.Lib
set_option linter.unusedVariables false

/-- Two boxes stay, and bytes that can be read. -/
theorem keep2 {W w w' : World} {g0 g1 : Nat} {k0 i0 k1 i1 : Int} {s0 s1 : ByteArray} {a : Option Addr} {l : List UInt8}
    (hb : Below w.heap.size w w')
    (h : w.cell? ⟨g0, 0, none⟩ = some (.int .i64 k0) ∧ w.cell? ⟨g0, 1, none⟩ = some (.int .i64 i0) ∧ w.cell? ⟨g0, 2, none⟩ = some (.string s0) ∧ w.cell? ⟨g1, 0, none⟩ = some (.int .i64 k1) ∧ w.cell? ⟨g1, 1, none⟩ = some (.int .i64 i1) ∧ w.cell? ⟨g1, 2, none⟩ = some (.string s1) ∧ Hid (Rd w a l) ∧ Hid (Below W.heap.size W w)) :
    w'.cell? ⟨g0, 0, none⟩ = some (.int .i64 k0) ∧ w'.cell? ⟨g0, 1, none⟩ = some (.int .i64 i0) ∧ w'.cell? ⟨g0, 2, none⟩ = some (.string s0) ∧ w'.cell? ⟨g1, 0, none⟩ = some (.int .i64 k1) ∧ w'.cell? ⟨g1, 1, none⟩ = some (.int .i64 i1) ∧ w'.cell? ⟨g1, 2, none⟩ = some (.string s1) ∧ Hid (Rd w' a l) ∧ Hid (Below W.heap.size W w') := by
  obtain ⟨h0, h1, h2, h3, h4, h5, h8, h9⟩ := h
  exact ⟨cell_later hb h0, cell_later hb h1, cell_later hb h2, cell_later hb h3, cell_later hb h4, cell_later hb h5, h8.out.later hb, chain h9.out hb⟩

theorem chkV_ok {v : PV} (h : okV v = true) : chkV v = 0 := by simp [chkV, h]
theorem chkV_no {v : PV} (h : okV v = false) : chkV v = 1 := by simp [chkV, h]
theorem putV_ok {v : PV} (h : okV v = true) : putV v = (bytesV v, 0) := by simp [putV, h]
theorem putV_no {v : PV} (h : okV v = false) : putV v = ([], 1) := by simp [putV, h]

/-- The world behind the law's head: two boxes, and Long's row. -/
theorem head2 (w : World) (k0 i0 : Int) (s0 : ByteArray) (k1 i1 : Int) (s1 : ByteArray) (W : World)
    (hW : ((w.alloc (.cells #[.int .i64 k0, .int .i64 i0, .string s0] 23)).alloc (.cells #[.int .i64 k1, .int .i64 i1, .string s1] 23)).alloc (.cells #[.int .i64 k0, .int .i64 i0, .string s0, .int .i64 k1, .int .i64 i1, .string s1] 23) = W) :
    Below w.heap.size w W ∧ Box W w.heap.size k0 i0 s0 ∧ Box W (w.heap.size + 1) k1 i1 s1 := by
  subst hW
  exact ⟨chain (below_two _ _ _) (alloc_below _ _), (Box.made rfl).later (below_two _ _ _), (Box.made (by simp)).later (alloc_below _ _)⟩

set_option maxHeartbeats 2000000 in
theorem vexact_walk (V : ValueApi) (k0 i0 : Int) (s0 : ByteArray) (k1 i1 : Int) (s1 : ByteArray) (t : Int) (w : World) :
    Calls Try.prog 3 #[.agg #[.int .i64 k0, .int .i64 i0, .string s0], .agg #[.int .i64 k1, .int .i64 i1, .string s1], .int .i64 t] w fun e w' => e = .returned (.bool true) ∧ Below w.heap.size w w' := by
  go_enter Try.func3, Try.ntmps3
  go_wp2_with fail
  refine (long_any (w.heap.size + 1 + 1) 2 2 [s0, s1] _ rfl (by omega) (fun i hi => ?_)).mono ?_
  · have : i = 0 ∨ i = 1 := by simp at hi; omega
    rcases this with rfl | rfl <;> exact alloc_cell (by simp) rfl
  rintro e w1 ⟨rfl, rfl⟩
  generalize hW : ((w.alloc (.cells #[.int .i64 k0, .int .i64 i0, .string s0] 23)).alloc (.cells #[.int .i64 k1, .int .i64 i1, .string s1] 23)).alloc (.cells #[.int .i64 k0, .int .i64 i0, .string s0, .int .i64 k1, .int .i64 i1, .string s1] 23) = W at *
  obtain ⟨hB0, B0, B1⟩ := head2 w k0 i0 s0 k1 i1 s1 W hW
  have HB : Hid (Below w.heap.size w W) := hB0
  clear hW hB0
  cases longT [s0, s1] with
  | true =>
    go_wp2
    go_ret
    exact ⟨rfl, HB.out⟩
  | false =>
    obtain ⟨c0, c1, c2, _⟩ := B0.cells
    obtain ⟨d0, d1, d2, _⟩ := B1.cells
    have Cc := V.check k0 i0 s0
    have Cr := rCompare_any k0 i0 s0 k1 i1 s1
    have Cv := V.compare k0 i0 s0 k1 i1 s1
    have Fr := rFits_any k0 i0 s0 t
    have Fv := V.fits k0 i0 s0 t
    have Sr := rSmall_any k0 i0 s0
    have Sv := V.small k0 i0 s0
    generalize cmpV ⟨k0, i0, s0⟩ ⟨k1, i1, s1⟩ = X at *
    generalize fitsV ⟨k0, i0, s0⟩ t = F at *
    generalize smallV ⟨k0, i0, s0⟩ = S at *
    cases hok : okV ⟨k0, i0, s0⟩ with
    | false =>
      rw [chkV_no hok] at Cc
      go_wp2_with fail
      refine (rValue_of _ _ _ _ hok).mono ?_
      rintro e w2 ⟨rfl, hb⟩
      obtain ⟨c0, c1, c2, d0, d1, d2, _, HB⟩ := keep2 hb ⟨c0, c1, c2, d0, d1, d2, Rd.nil W none, HB⟩
      go_wp2_with fail
      refine (V.bytes _ _ _ _).mono ?_
      rintro e w3 ⟨a, n, cap, rfl, hn, hs, hc, hr, hnl, hb⟩
      rw [putV_no hok] at hn hr hnl ⊢
      simp only [List.length_nil] at hn
      subst hn
      have HS := keep2 hb ⟨c0, c1, c2, d0, d1, d2, Rd.nil w2 none, HB⟩
      go_wp2
      go_region_held3 (fun w' => w'.cell? ⟨w.heap.size, 0, none⟩ = some (.int .i64 k0) ∧ w'.cell? ⟨w.heap.size, 1, none⟩ = some (.int .i64 i0) ∧ w'.cell? ⟨w.heap.size, 2, none⟩ = some (.string s0) ∧ w'.cell? ⟨w.heap.size + 1, 0, none⟩ = some (.int .i64 k1) ∧ w'.cell? ⟨w.heap.size + 1, 1, none⟩ = some (.int .i64 i1) ∧ w'.cell? ⟨w.heap.size + 1, 2, none⟩ = some (.string s1) ∧ Hid (Rd w' none []) ∧ Hid (Below w.heap.size w w')) (first | assumption | exact keep2 (by assumption) (by assumption) | exact keep2 (Below.refl _ _).drew (by assumption)) (first
        | (go_at_call 12; refine (Cc _).mono ?_; rintro e w' ⟨rfl, hb⟩)
        | (go_at_call 13; refine (Cv _).mono ?_; rintro e w' ⟨rfl, hb⟩)
        | (go_at_call 14; refine (Cr _).mono ?_; rintro e w' ⟨rfl, hb⟩)
        | (go_at_call 15; refine (Fv _).mono ?_; rintro e w' ⟨rfl, hb⟩)
        | (go_at_call 16; refine (Fr _).mono ?_; rintro e w' ⟨rfl, hb⟩)
        | (go_at_call 17; refine (Sv _).mono ?_; rintro e w' ⟨rfl, hb⟩)
        | (go_at_call 18; refine (Sr _).mono ?_; rintro e w' ⟨rfl, hb⟩))
      have HS1 : w'.cell? ⟨w.heap.size, 0, none⟩ = some (.int .i64 k0) ∧ w'.cell? ⟨w.heap.size, 1, none⟩ = some (.int .i64 i0) ∧ w'.cell? ⟨w.heap.size, 2, none⟩ = some (.string s0) ∧ w'.cell? ⟨w.heap.size + 1, 0, none⟩ = some (.int .i64 k1) ∧ w'.cell? ⟨w.heap.size + 1, 1, none⟩ = some (.int .i64 i1) ∧ w'.cell? ⟨w.heap.size + 1, 2, none⟩ = some (.string s1) ∧ Hid (Rd w' none []) ∧ Hid (Below w.heap.size w w') := by assumption
      obtain ⟨_, _, _, _, _, _, _, HB1⟩ := HS1
      go_wp2_with fail
      refine (vwakes_any V _).mono ?_
      rintro e w5 ⟨rfl, hb5⟩
      go_wp2
      go_ret
      exact ⟨rfl, chain HB1.out hb5⟩
    | true =>
      rw [chkV_ok hok] at Cc
      go_wp2_with fail
      refine (rValue_of _ _ _ _ hok).mono ?_
      rintro e w2 ⟨rfl, hb⟩
      obtain ⟨c0, c1, c2, d0, d1, d2, _, HB⟩ := keep2 hb ⟨c0, c1, c2, d0, d1, d2, Rd.nil W none, HB⟩
      go_wp2_with fail
      refine (V.bytes _ _ _ _).mono ?_
      rintro e w3 ⟨a, n, cap, rfl, hn, hs, hc, hr, hnl, hb⟩
      rw [putV_ok hok] at hn hr hnl ⊢
      simp only at hn hr hnl ⊢
      have HS0 := keep2 hb ⟨c0, c1, c2, d0, d1, d2, Rd.nil w2 none, HB⟩
      have HS := And.intro HS0.1 (And.intro HS0.2.1 (And.intro HS0.2.2.1 (And.intro HS0.2.2.2.1 (And.intro HS0.2.2.2.2.1 (And.intro HS0.2.2.2.2.2.1 (And.intro (show Hid (Rd w3 a (bytesV ⟨k0, i0, s0⟩)) from hr) HS0.2.2.2.2.2.2.2))))))
      have HN : Hid ((bytesV ⟨k0, i0, s0⟩).length = n) := hn
      have HL : Hid (a = none → bytesV ⟨k0, i0, s0⟩ = [] ∧ cap = 0) := hnl
      clear HS0 hn hr hnl hb
      go_wp2
      refine wp_region_held_drew (S := (fun w' => w'.cell? ⟨w.heap.size, 0, none⟩ = some (.int .i64 k0) ∧ w'.cell? ⟨w.heap.size, 1, none⟩ = some (.int .i64 i0) ∧ w'.cell? ⟨w.heap.size, 2, none⟩ = some (.string s0) ∧ w'.cell? ⟨w.heap.size + 1, 0, none⟩ = some (.int .i64 k1) ∧ w'.cell? ⟨w.heap.size + 1, 1, none⟩ = some (.int .i64 i1) ∧ w'.cell? ⟨w.heap.size + 1, 2, none⟩ = some (.string s1) ∧ Hid (Rd w' a (bytesV ⟨k0, i0, s0⟩)) ∧ Hid (Below w.heap.size w w'))) (by kernel_rfl) (keep2 (Below.refl _ _).drew (by assumption)) (fun hHeld => ?_)
      refine heldTake (v := ?_) 0 24 rfl rfl (by kernel_rfl) (by kernel_rfl) (by kernel_rfl) (fun _ _ _ h => h) (by rfl) (fun w hSw => ?_) (by assumption) ?_
      rotate_left
      · (try dsimp only at hSw); first | (go_simp; done) | (go_simp; with_reducible rfl)
      simp only [List.setIfInBounds_toArray, List.set_cons_zero, List.set_cons_succ]
      refine heldTake (v := ?_) 3 27 rfl rfl (by kernel_rfl) (by kernel_rfl) (by kernel_rfl) (fun _ _ _ h => h) (by rfl) (fun w hSw => ?_) (by assumption) ?_
      rotate_left
      · (try dsimp only at hSw); first | (go_simp; done) | (go_simp; with_reducible rfl)
      simp only [List.setIfInBounds_toArray, List.set_cons_zero, List.set_cons_succ]
      refine heldOne 1 rfl (by kernel_rfl) (by rfl) (fun K hK => ?_)
      go_simp
      go_at_call 12; refine (Cc _).mono ?_; rintro e w' ⟨rfl, hb⟩
      refine hK.out _ _ ?_ (fun hHeld => ?_)
      · exact keep2 (by assumption) (by assumption)
      clear hK K
      try simp only [List.setIfInBounds_toArray, List.set_cons_zero, List.set_cons_succ]
      refine heldTake (v := ?_) 2 26 rfl rfl (by kernel_rfl) (by kernel_rfl) (by kernel_rfl) (fun _ _ _ h => h) (by rfl) (fun w hSw => ?_) (by assumption) ?_
      rotate_left
      · (try dsimp only at hSw); first | (go_simp; done) | (go_simp; with_reducible rfl)
      simp only [List.setIfInBounds_toArray, List.set_cons_zero, List.set_cons_succ]
      refine heldTake (v := ?_) 4 28 rfl rfl (by kernel_rfl) (by kernel_rfl) (by kernel_rfl) (fun _ _ _ h => h) (by rfl) (fun w hSw => ?_) (by assumption) ?_
      rotate_left
      · (try dsimp only at hSw); first | (go_simp; done) | (go_simp; with_reducible rfl)
      simp only [List.setIfInBounds_toArray, List.set_cons_zero, List.set_cons_succ]
      refine heldTake (v := ?_) 5 29 rfl rfl (by kernel_rfl) (by kernel_rfl) (by kernel_rfl) (fun _ _ _ h => h) (by rfl) (fun w hSw => ?_) (by assumption) ?_
      rotate_left
      · (try dsimp only at hSw); first | (go_simp; done) | (go_simp; with_reducible rfl)
      simp only [List.setIfInBounds_toArray, List.set_cons_zero, List.set_cons_succ]
      refine heldTake (v := ?_) 6 30 rfl rfl (by kernel_rfl) (by kernel_rfl) (by kernel_rfl) (fun _ _ _ h => h) (by rfl) (fun w hSw => ?_) (by assumption) ?_
      rotate_left
      · (try dsimp only at hSw); first | (go_simp; done) | (go_simp; with_reducible rfl)
      simp only [List.setIfInBounds_toArray, List.set_cons_zero, List.set_cons_succ]
      refine heldTake (v := ?_) 7 31 rfl rfl (by kernel_rfl) (by kernel_rfl) (by kernel_rfl) (fun _ _ _ h => h) (by rfl) (fun w hSw => ?_) (by assumption) ?_
      rotate_left
      · (try dsimp only at hSw); first | (go_simp; done) | (go_simp; with_reducible rfl)
      simp only [List.setIfInBounds_toArray, List.set_cons_zero, List.set_cons_succ]
      refine heldTake (v := ?_) 8 32 rfl rfl (by kernel_rfl) (by kernel_rfl) (by kernel_rfl) (fun _ _ _ h => h) (by rfl) (fun w hSw => ?_) (by assumption) ?_
      rotate_left
      · (try dsimp only at hSw); first | (go_simp; done) | (go_simp; with_reducible rfl)
      simp only [List.setIfInBounds_toArray, List.set_cons_zero, List.set_cons_succ]
      refine heldSkip 9 33 rfl rfl (by kernel_rfl) (by kernel_rfl) (by kernel_rfl) (fun _ _ _ h => h) (by rfl) (by assumption) ?_
      simp only [List.setIfInBounds_toArray, List.set_cons_zero, List.set_cons_succ]
      refine heldSkip 10 34 rfl rfl (by kernel_rfl) (by kernel_rfl) (by kernel_rfl) (fun _ _ _ h => h) (by rfl) (by assumption) ?_
      simp only [List.setIfInBounds_toArray, List.set_cons_zero, List.set_cons_succ]
      refine heldSkip 11 35 rfl rfl (by kernel_rfl) (by kernel_rfl) (by kernel_rfl) (fun _ _ _ h => h) (by rfl) (by assumption) ?_
      simp only [List.setIfInBounds_toArray, List.set_cons_zero, List.set_cons_succ]
      refine heldTake (v := ?_) 12 36 rfl rfl (by kernel_rfl) (by kernel_rfl) (by kernel_rfl) (fun _ _ _ h => h) (by rfl) (fun w hSw => ?_) (by assumption) ?_
      rotate_left
      · (try dsimp only at hSw); first | (go_simp; done) | (go_simp; with_reducible rfl)
      simp only [List.setIfInBounds_toArray, List.set_cons_zero, List.set_cons_succ]
      refine heldTake (v := ?_) 13 37 rfl rfl (by kernel_rfl) (by kernel_rfl) (by kernel_rfl) (fun _ _ _ h => h) (by rfl) (fun w hSw => ?_) (by assumption) ?_
      rotate_left
      · (try dsimp only at hSw); first | (go_simp; done) | (go_simp; with_reducible rfl)
      simp only [List.setIfInBounds_toArray, List.set_cons_zero, List.set_cons_succ]
      refine heldTake (v := ?_) 14 38 rfl rfl (by kernel_rfl) (by kernel_rfl) (by kernel_rfl) (fun _ _ _ h => h) (by rfl) (fun w hSw => ?_) (by assumption) ?_
      rotate_left
      · (try dsimp only at hSw); first | (go_simp; done) | (go_simp; with_reducible rfl)
      simp only [List.setIfInBounds_toArray, List.set_cons_zero, List.set_cons_succ]
      refine heldTake (v := ?_) 15 39 rfl rfl (by kernel_rfl) (by kernel_rfl) (by kernel_rfl) (fun _ _ _ h => h) (by rfl) (fun w hSw => ?_) (by assumption) ?_
      rotate_left
      · (try dsimp only at hSw); first | (go_simp; done) | (go_simp; with_reducible rfl)
      simp only [List.setIfInBounds_toArray, List.set_cons_zero, List.set_cons_succ]
      refine heldTake (v := ?_) 16 40 rfl rfl (by kernel_rfl) (by kernel_rfl) (by kernel_rfl) (fun _ _ _ h => h) (by rfl) (fun w hSw => ?_) (by assumption) ?_
      rotate_left
      · (try dsimp only at hSw); first | (go_simp; done) | (go_simp; with_reducible rfl)
      simp only [List.setIfInBounds_toArray, List.set_cons_zero, List.set_cons_succ]
      refine heldTake (v := ?_) 18 42 rfl rfl (by kernel_rfl) (by kernel_rfl) (by kernel_rfl) (fun _ _ _ h => h) (by rfl) (fun w hSw => ?_) (by assumption) ?_
      rotate_left
      · (try dsimp only at hSw); first | (go_simp; done) | (go_simp; with_reducible rfl)
      simp only [List.setIfInBounds_toArray, List.set_cons_zero, List.set_cons_succ]
      refine heldTake (v := ?_) 19 43 rfl rfl (by kernel_rfl) (by kernel_rfl) (by kernel_rfl) (fun _ _ _ h => h) (by rfl) (fun w hSw => ?_) (by assumption) ?_
      rotate_left
      · (try dsimp only at hSw); first | (go_simp; done) | (go_simp; with_reducible rfl)
      simp only [List.setIfInBounds_toArray, List.set_cons_zero, List.set_cons_succ]
      refine heldOne 17 rfl (by kernel_rfl) (by rfl) (fun K hK => ?_)
      go_simp
      go_at_call 13; refine (Cv _).mono ?_; rintro e w' ⟨rfl, hb⟩
      refine hK.out _ _ ?_ (fun hHeld => ?_)
      · exact keep2 (by assumption) (by assumption)
      clear hK K
      try simp only [List.setIfInBounds_toArray, List.set_cons_zero, List.set_cons_succ]
      refine heldOne 20 rfl (by kernel_rfl) (by rfl) (fun K hK => ?_)
      go_simp
      go_at_call 14; refine (Cr _).mono ?_; rintro e w' ⟨rfl, hb⟩
      refine hK.out _ _ ?_ (fun hHeld => ?_)
      · exact keep2 (by assumption) (by assumption)
      clear hK K
      try simp only [List.setIfInBounds_toArray, List.set_cons_zero, List.set_cons_succ]
      refine heldTake (v := ?_) 21 45 rfl rfl (by kernel_rfl) (by kernel_rfl) (by kernel_rfl) (fun _ _ _ h => h) (by rfl) (fun w hSw => ?_) (by assumption) ?_
      rotate_left
      · (try dsimp only at hSw); first | (go_simp; done) | (go_simp; with_reducible rfl)
      simp only [List.setIfInBounds_toArray, List.set_cons_zero, List.set_cons_succ]
      refine heldTake (v := ?_) 22 46 rfl rfl (by kernel_rfl) (by kernel_rfl) (by kernel_rfl) (fun _ _ _ h => h) (by rfl) (fun w hSw => ?_) (by assumption) ?_
      rotate_left
      · (try dsimp only at hSw); first | (go_simp; done) | (go_simp; with_reducible rfl)
      simp only [List.setIfInBounds_toArray, List.set_cons_zero, List.set_cons_succ]
      refine heldTake (v := ?_) 23 47 rfl rfl (by kernel_rfl) (by kernel_rfl) (by kernel_rfl) (fun _ _ _ h => h) (by rfl) (fun w hSw => ?_) (by assumption) ?_
      rotate_left
      · (try dsimp only at hSw); first | (go_simp; done) | (go_simp; with_reducible rfl)
      simp only [List.setIfInBounds_toArray, List.set_cons_zero, List.set_cons_succ]
      refine heldTake (v := ?_) 24 48 rfl rfl (by kernel_rfl) (by kernel_rfl) (by kernel_rfl) (fun _ _ _ h => h) (by rfl) (fun w hSw => ?_) (by assumption) ?_
      rotate_left
      · (try dsimp only at hSw); first | (go_simp; done) | (go_simp; with_reducible rfl)
      simp only [List.setIfInBounds_toArray, List.set_cons_zero, List.set_cons_succ]
      refine heldTake (v := ?_) 25 49 rfl rfl (by kernel_rfl) (by kernel_rfl) (by kernel_rfl) (fun _ _ _ h => h) (by rfl) (fun w hSw => ?_) (by assumption) ?_
      rotate_left
      · (try dsimp only at hSw); first | (go_simp; done) | (go_simp; with_reducible rfl)
      simp only [List.setIfInBounds_toArray, List.set_cons_zero, List.set_cons_succ]
      refine heldTake (v := ?_) 27 51 rfl rfl (by kernel_rfl) (by kernel_rfl) (by kernel_rfl) (fun _ _ _ h => h) (by rfl) (fun w hSw => ?_) (by assumption) ?_
      rotate_left
      · (try dsimp only at hSw); first | (go_simp; done) | (go_simp; with_reducible rfl)
      simp only [List.setIfInBounds_toArray, List.set_cons_zero, List.set_cons_succ]
      refine heldTake (v := ?_) 28 52 rfl rfl (by kernel_rfl) (by kernel_rfl) (by kernel_rfl) (fun _ _ _ h => h) (by rfl) (fun w hSw => ?_) (by assumption) ?_
      rotate_left
      · (try dsimp only at hSw); first | (go_simp; done) | (go_simp; with_reducible rfl)
      simp only [List.setIfInBounds_toArray, List.set_cons_zero, List.set_cons_succ]
      refine heldOne 26 rfl (by kernel_rfl) (by rfl) (fun K hK => ?_)
      go_simp
      go_at_call 15; refine (Fv _).mono ?_; rintro e w' ⟨rfl, hb⟩
      refine hK.out _ _ ?_ (fun hHeld => ?_)
      · exact keep2 (by assumption) (by assumption)
      clear hK K
      try simp only [List.setIfInBounds_toArray, List.set_cons_zero, List.set_cons_succ]
      refine heldOne 29 rfl (by kernel_rfl) (by rfl) (fun K hK => ?_)
      go_simp
      go_at_call 16; refine (Fr _).mono ?_; rintro e w' ⟨rfl, hb⟩
      refine hK.out _ _ ?_ (fun hHeld => ?_)
      · exact keep2 (by assumption) (by assumption)
      clear hK K
      try simp only [List.setIfInBounds_toArray, List.set_cons_zero, List.set_cons_succ]
      refine heldTake (v := ?_) 30 54 rfl rfl (by kernel_rfl) (by kernel_rfl) (by kernel_rfl) (fun _ _ _ h => h) (by rfl) (fun w hSw => ?_) (by assumption) ?_
      rotate_left
      · (try dsimp only at hSw); first | (go_simp; done) | (go_simp; with_reducible rfl)
      simp only [List.setIfInBounds_toArray, List.set_cons_zero, List.set_cons_succ]
      refine heldTake (v := ?_) 31 55 rfl rfl (by kernel_rfl) (by kernel_rfl) (by kernel_rfl) (fun _ _ _ h => h) (by rfl) (fun w hSw => ?_) (by assumption) ?_
      rotate_left
      · (try dsimp only at hSw); first | (go_simp; done) | (go_simp; with_reducible rfl)
      simp only [List.setIfInBounds_toArray, List.set_cons_zero, List.set_cons_succ]
      refine heldTake (v := ?_) 32 56 rfl rfl (by kernel_rfl) (by kernel_rfl) (by kernel_rfl) (fun _ _ _ h => h) (by rfl) (fun w hSw => ?_) (by assumption) ?_
      rotate_left
      · (try dsimp only at hSw); first | (go_simp; done) | (go_simp; with_reducible rfl)
      simp only [List.setIfInBounds_toArray, List.set_cons_zero, List.set_cons_succ]
      refine heldTake (v := ?_) 33 57 rfl rfl (by kernel_rfl) (by kernel_rfl) (by kernel_rfl) (fun _ _ _ h => h) (by rfl) (fun w hSw => ?_) (by assumption) ?_
      rotate_left
      · (try dsimp only at hSw); first | (go_simp; done) | (go_simp; with_reducible rfl)
      simp only [List.setIfInBounds_toArray, List.set_cons_zero, List.set_cons_succ]
      refine heldTake (v := ?_) 35 59 rfl rfl (by kernel_rfl) (by kernel_rfl) (by kernel_rfl) (fun _ _ _ h => h) (by rfl) (fun w hSw => ?_) (by assumption) ?_
      rotate_left
      · (try dsimp only at hSw); first | (go_simp; done) | (go_simp; with_reducible rfl)
      simp only [List.setIfInBounds_toArray, List.set_cons_zero, List.set_cons_succ]
      refine heldOne 34 rfl (by kernel_rfl) (by rfl) (fun K hK => ?_)
      go_simp
      go_at_call 17; refine (Sv _).mono ?_; rintro e w' ⟨rfl, hb⟩
      refine hK.out _ _ ?_ (fun hHeld => ?_)
      · exact keep2 (by assumption) (by assumption)
      clear hK K
      try simp only [List.setIfInBounds_toArray, List.set_cons_zero, List.set_cons_succ]
      refine heldOne 36 rfl (by kernel_rfl) (by rfl) (fun K hK => ?_)
      go_simp
      go_at_call 18; refine (Sr _).mono ?_; rintro e w' ⟨rfl, hb⟩
      refine hK.out _ _ ?_ (fun hHeld => ?_)
      · exact keep2 (by assumption) (by assumption)
      clear hK K
      try simp only [List.setIfInBounds_toArray, List.set_cons_zero, List.set_cons_succ]
      refine heldTake (v := ?_) 37 61 rfl rfl (by kernel_rfl) (by kernel_rfl) (by kernel_rfl) (fun _ _ _ h => h) (by rfl) (fun w hSw => ?_) (by assumption) ?_
      rotate_left
      · (try dsimp only at hSw); first | (go_simp; done) | (go_simp; with_reducible rfl)
      simp only [List.setIfInBounds_toArray, List.set_cons_zero, List.set_cons_succ]
      refine heldTake (v := ?_) 38 62 rfl rfl (by kernel_rfl) (by kernel_rfl) (by kernel_rfl) (fun _ _ _ h => h) (by rfl) (fun w hSw => ?_) (by assumption) ?_
      rotate_left
      · (try dsimp only at hSw); first | (go_simp; done) | (go_simp; with_reducible rfl)
      simp only [List.setIfInBounds_toArray, List.set_cons_zero, List.set_cons_succ]
      refine wpAnyH_done (by kernel_rfl) ?_ _
      have HS1 : w'.cell? ⟨w.heap.size, 0, none⟩ = some (.int .i64 k0) ∧ w'.cell? ⟨w.heap.size, 1, none⟩ = some (.int .i64 i0) ∧ w'.cell? ⟨w.heap.size, 2, none⟩ = some (.string s0) ∧ w'.cell? ⟨w.heap.size + 1, 0, none⟩ = some (.int .i64 k1) ∧ w'.cell? ⟨w.heap.size + 1, 1, none⟩ = some (.int .i64 i1) ∧ w'.cell? ⟨w.heap.size + 1, 2, none⟩ = some (.string s1) ∧ Hid (Rd w' a (bytesV ⟨k0, i0, s0⟩)) ∧ Hid (Below w.heap.size w w') := by assumption
      obtain ⟨c0, c1, c2, d0, d1, d2, HR, HB1⟩ := HS1
      have hrd : readV (bytesV ⟨k0, i0, s0⟩) 0 = (PV.mk k0 i0 s0, (n : Int), (0 : Int)) := by
        have := readV_bytes (l := bytesV ⟨k0, i0, s0⟩) (r := []) (p := 0) hok (by simp)
        rw [HN.out] at this
        simpa using this
      have HRD : Hid _ := hrd
      clear hrd
      go_wp2_with fail
      refine (V.read a n cap 0 _ _ HN.out hs hc HR.out).mono ?_
      rintro e w5 ⟨he, hb⟩
      rw [HRD.out] at he
      unfold TellsV at he
      simp only at he
      subst he
      obtain ⟨c0, c1, c2, d0, d1, d2, HR, HB1⟩ := keep2 hb ⟨c0, c1, c2, d0, d1, d2, HR, HB1⟩
      have hlt := cell_inside c0
      have BV : Box (w5.alloc (.cells #[.int .i64 k0, .int .i64 i0, .string s0] 23)) w5.heap.size k0 i0 s0 := Box.made rfl
      go_wp2_with fail
      refine (rVB_any k0 i0 s0 _ hok).mono ?_
      rintro e w6 ⟨a6, n6, cap6, rfl, hn6, hc6, ho6, hr6, hnl6, hb6⟩
      obtain ⟨c0, c1, c2, d0, d1, d2, HR, HB1⟩ := keep2 (chain (alloc_below _ _) hb6) ⟨c0, c1, c2, d0, d1, d2, HR, HB1⟩
      replace BV := BV.later hb6
      clear hlt ho6 hnl6 hb6
      have HN6 : Hid _ := hn6
      have hs6 : n6 ≤ 1048576 := by have h1 := HN.out; omega
      clear hn6
      go_wp2_with fail
      refine (bytes_any a a6 n n6 cap cap6 _ _ _ HN.out HN6.out (by omega) (by omega) HR.out hr6).mono ?_
      rintro e w7 ⟨rfl, hb7⟩
      rw [show decide (bytesV (PV.mk k0 i0 s0) = bytesV (PV.mk k0 i0 s0)) = true from by simp]
      obtain ⟨c0, c1, c2, d0, d1, d2, HR, HB1⟩ := keep2 hb7 ⟨c0, c1, c2, d0, d1, d2, HR, HB1⟩
      replace BV := BV.later hb7
      clear hr6 hb7
      obtain ⟨v0, v1, v2, _⟩ := BV.cells
      go_wp2_with fail
      refine (keepValue_any _ _ _ _ _ _ _).mono ?_
      rintro e w8 ⟨rfl, hb8⟩
      rw [show (decide (k0 = k0) && decide (i0 = i0) && (s0.toList == s0.toList)) = true from by simp]
      go_wp2_with fail
      refine (vwakes_any V _).mono ?_
      rintro e w9 ⟨rfl, hb9⟩
      go_wp2
      go_ret
      exact ⟨rfl, chain HB1.out (chain hb8 hb9)⟩

end Go.Proofs.Ytfjckfjaekpffaa
