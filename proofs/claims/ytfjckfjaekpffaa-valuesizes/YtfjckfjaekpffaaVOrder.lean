/-
  ValueOrder's walk: what the law answers, whatever its values.
-/
import Derived.Test.YtfjckfjaekpffaaRows
import Derived.Test.YtfjckfjaekpffaaVLaws
namespace Go.Proofs.Ytfjckfjaekpffaa
open Go.RowKit Go.Lib
set_option linter.unusedVariables false

theorem alloc_cell {w : World} {xs : Array Value} {t g i : Nat} {v : Value} (hg : w.heap.size = g) (h : xs[i]? = some v) : (w.alloc (.cells xs t)).cell? ⟨g, i, none⟩ = some v := by
  subst hg
  rw [cell_of_row (w.alloc (.cells xs t)) w.heap.size i xs t (0, 0) (by show (w.heap.push _)[w.heap.size]? = _; simp)]
  exact h

/-- Boxes stay. -/
theorem keep3 {W w w' : World} {g0 g1 g2 : Nat} {k0 i0 k1 i1 k2 i2 : Int} {s0 s1 s2 : ByteArray}
    (hb : Below w.heap.size w w')
    (h : w.cell? ⟨g0, 0, none⟩ = some (.int .i64 k0) ∧ w.cell? ⟨g0, 1, none⟩ = some (.int .i64 i0) ∧ w.cell? ⟨g0, 2, none⟩ = some (.string s0) ∧ w.cell? ⟨g1, 0, none⟩ = some (.int .i64 k1) ∧ w.cell? ⟨g1, 1, none⟩ = some (.int .i64 i1) ∧ w.cell? ⟨g1, 2, none⟩ = some (.string s1) ∧ w.cell? ⟨g2, 0, none⟩ = some (.int .i64 k2) ∧ w.cell? ⟨g2, 1, none⟩ = some (.int .i64 i2) ∧ w.cell? ⟨g2, 2, none⟩ = some (.string s2) ∧ Hid (Below W.heap.size W w)) :
    w'.cell? ⟨g0, 0, none⟩ = some (.int .i64 k0) ∧ w'.cell? ⟨g0, 1, none⟩ = some (.int .i64 i0) ∧ w'.cell? ⟨g0, 2, none⟩ = some (.string s0) ∧ w'.cell? ⟨g1, 0, none⟩ = some (.int .i64 k1) ∧ w'.cell? ⟨g1, 1, none⟩ = some (.int .i64 i1) ∧ w'.cell? ⟨g1, 2, none⟩ = some (.string s1) ∧ w'.cell? ⟨g2, 0, none⟩ = some (.int .i64 k2) ∧ w'.cell? ⟨g2, 1, none⟩ = some (.int .i64 i2) ∧ w'.cell? ⟨g2, 2, none⟩ = some (.string s2) ∧ Hid (Below W.heap.size W w') := by
  obtain ⟨h0, h1, h2, h3, h4, h5, h6, h7, h8, h9⟩ := h
  exact ⟨cell_later hb h0, cell_later hb h1, cell_later hb h2, cell_later hb h3, cell_later hb h4, cell_later hb h5, cell_later hb h6, cell_later hb h7, cell_later hb h8, chain h9.out hb⟩

theorem keepV_eq (k i : Int) (s : ByteArray) (k' i' : Int) (s' : ByteArray) : (decide (k = k') && decide (i = i') && (s.toList == s'.toList)) = decide (cmpV ⟨k, i, s⟩ ⟨k', i', s'⟩ = 0) := by
  rw [Bool.eq_iff_iff]
  simp only [Bool.and_eq_true, decide_eq_true_eq, beq_iff_eq, cmpV_zero, PV.mk.injEq]
  constructor
  · rintro ⟨⟨h1, h2⟩, h3⟩
    exact ⟨h1, h2, toList_inj h3⟩
  · rintro ⟨h1, h2, h3⟩
    exact ⟨⟨h1, h2⟩, by rw [h3]⟩

theorem cmpV_ge_trans {v u x : PV} (h : 0 ≤ cmpV v u) (h' : 0 ≤ cmpV u x) : 0 ≤ cmpV v x := by
  have := cmpV_le_trans (v := x) (u := u) (x := v) (by rw [cmpV_flip]; omega) (by rw [cmpV_flip]; omega)
  rw [cmpV_flip] at this
  omega

set_option maxHeartbeats 1000000 in
theorem vorder_walk (V : ValueApi) (k0 i0 : Int) (s0 : ByteArray) (k1 i1 : Int) (s1 : ByteArray) (k2 i2 : Int) (s2 : ByteArray) (w : World) :
    Calls Try.prog 5 #[.agg #[.int .i64 k0, .int .i64 i0, .string s0], .agg #[.int .i64 k1, .int .i64 i1, .string s1], .agg #[.int .i64 k2, .int .i64 i2, .string s2]] w fun e w' => e = .returned (.bool true) ∧ Below w.heap.size w w' := by
  go_enter Try.func5, Try.ntmps5
  go_wp2_with fail
  refine (long_any (w.heap.size + 1 + 1 + 1) 3 3 [s0, s1, s2] _ rfl (by omega) (fun i hi => ?_)).mono ?_
  · have : i = 0 ∨ i = 1 ∨ i = 2 := by simp at hi; omega
    rcases this with rfl | rfl | rfl <;> exact alloc_cell (by simp) rfl
  rintro e w1 ⟨rfl, rfl⟩
  have HB0 : Hid (Below w.heap.size w ((((w.alloc (.cells #[.int .i64 k0, .int .i64 i0, .string s0] 23)).alloc (.cells #[.int .i64 k1, .int .i64 i1, .string s1] 23)).alloc (.cells #[.int .i64 k2, .int .i64 i2, .string s2] 23)).alloc (.cells #[.int .i64 k0, .int .i64 i0, .string s0, .int .i64 k1, .int .i64 i1, .string s1, .int .i64 k2, .int .i64 i2, .string s2] 23))) := chain (below_two _ _ _) (below_two _ _ _)
  have B0 := (Box.made (w := w) (k := k0) (i := i0) (s := s0) rfl).later (chain (below_two _ (.cells #[.int .i64 k1, .int .i64 i1, .string s1] 23) (.cells #[.int .i64 k2, .int .i64 i2, .string s2] 23)) (alloc_below _ (.cells #[.int .i64 k0, .int .i64 i0, .string s0, .int .i64 k1, .int .i64 i1, .string s1, .int .i64 k2, .int .i64 i2, .string s2] 23)))
  have B1 := (Box.made (w := w.alloc (.cells #[.int .i64 k0, .int .i64 i0, .string s0] 23)) (g := w.heap.size + 1) (k := k1) (i := i1) (s := s1) (by simp)).later (below_two _ (.cells #[.int .i64 k2, .int .i64 i2, .string s2] 23) (.cells #[.int .i64 k0, .int .i64 i0, .string s0, .int .i64 k1, .int .i64 i1, .string s1, .int .i64 k2, .int .i64 i2, .string s2] 23))
  have B2 := (Box.made (w := (w.alloc (.cells #[.int .i64 k0, .int .i64 i0, .string s0] 23)).alloc (.cells #[.int .i64 k1, .int .i64 i1, .string s1] 23)) (g := w.heap.size + 1 + 1) (k := k2) (i := i2) (s := s2) (by simp)).later (alloc_below _ (.cells #[.int .i64 k0, .int .i64 i0, .string s0, .int .i64 k1, .int .i64 i1, .string s1, .int .i64 k2, .int .i64 i2, .string s2] 23))
  generalize (((w.alloc (.cells #[.int .i64 k0, .int .i64 i0, .string s0] 23)).alloc (.cells #[.int .i64 k1, .int .i64 i1, .string s1] 23)).alloc (.cells #[.int .i64 k2, .int .i64 i2, .string s2] 23)).alloc (.cells #[.int .i64 k0, .int .i64 i0, .string s0, .int .i64 k1, .int .i64 i1, .string s1, .int .i64 k2, .int .i64 i2, .string s2] 23) = W at *
  cases longT [s0, s1, s2] with
  | true =>
    go_wp2
    go_ret
    exact ⟨rfl, HB0.out⟩
  | false =>
    obtain ⟨c0, c1, c2, _⟩ := B0.cells
    obtain ⟨d0, d1, d2, _⟩ := B1.cells
    obtain ⟨e0, e1, e2, _⟩ := B2.cells
    have HS := And.intro c0 (And.intro c1 (And.intro c2 (And.intro d0 (And.intro d1 (And.intro d2 (And.intro e0 (And.intro e1 (And.intro e2 HB0))))))))
    go_wp2
    go_region_held3 (fun w' => w'.cell? ⟨w.heap.size, 0, none⟩ = some (.int .i64 k0) ∧ w'.cell? ⟨w.heap.size, 1, none⟩ = some (.int .i64 i0) ∧ w'.cell? ⟨w.heap.size, 2, none⟩ = some (.string s0) ∧ w'.cell? ⟨w.heap.size + 1, 0, none⟩ = some (.int .i64 k1) ∧ w'.cell? ⟨w.heap.size + 1, 1, none⟩ = some (.int .i64 i1) ∧ w'.cell? ⟨w.heap.size + 1, 2, none⟩ = some (.string s1) ∧ w'.cell? ⟨w.heap.size + 1 + 1, 0, none⟩ = some (.int .i64 k2) ∧ w'.cell? ⟨w.heap.size + 1 + 1, 1, none⟩ = some (.int .i64 i2) ∧ w'.cell? ⟨w.heap.size + 1 + 1, 2, none⟩ = some (.string s2) ∧ Hid (Below w.heap.size w w')) (first | exact keep3 (by assumption) (by assumption) | exact keep3 (Below.refl _ _).drew (by assumption)) (first | (go_at_call 13; refine (V.compare _ _ _ _ _ _ _).mono ?_; rintro e w' ⟨rfl, hb⟩))
    have HS1 : w'.cell? ⟨w.heap.size, 0, none⟩ = some (.int .i64 k0) ∧ w'.cell? ⟨w.heap.size, 1, none⟩ = some (.int .i64 i0) ∧ w'.cell? ⟨w.heap.size, 2, none⟩ = some (.string s0) ∧ w'.cell? ⟨w.heap.size + 1, 0, none⟩ = some (.int .i64 k1) ∧ w'.cell? ⟨w.heap.size + 1, 1, none⟩ = some (.int .i64 i1) ∧ w'.cell? ⟨w.heap.size + 1, 2, none⟩ = some (.string s1) ∧ w'.cell? ⟨w.heap.size + 1 + 1, 0, none⟩ = some (.int .i64 k2) ∧ w'.cell? ⟨w.heap.size + 1 + 1, 1, none⟩ = some (.int .i64 i2) ∧ w'.cell? ⟨w.heap.size + 1 + 1, 2, none⟩ = some (.string s2) ∧ Hid (Below w.heap.size w w') := by assumption
    have hXr := cmpV_range ⟨k0, i0, s0⟩ ⟨k1, i1, s1⟩
    have hYr := cmpV_range ⟨k1, i1, s1⟩ ⟨k2, i2, s2⟩
    have hZr := cmpV_range ⟨k0, i0, s0⟩ ⟨k2, i2, s2⟩
    have hf := cmpV_flip ⟨k0, i0, s0⟩ ⟨k1, i1, s1⟩
    have hT1 := cmpV_le_trans (v := ⟨k0, i0, s0⟩) (u := ⟨k1, i1, s1⟩) (x := ⟨k2, i2, s2⟩)
    have hT2 := cmpV_ge_trans (v := ⟨k0, i0, s0⟩) (u := ⟨k1, i1, s1⟩) (x := ⟨k2, i2, s2⟩)
    have hk := keepV_eq k0 i0 s0 k1 i1 s1
    have hself := cmpV_self ⟨k0, i0, s0⟩
    have Cf := V.compare k1 i1 s1 k0 i0 s0
    have Cs := V.compare k0 i0 s0 k0 i0 s0
    have Ck := keepValue_any k0 i0 s0 k1 i1 s1
    rw [hf] at Cf
    rw [hself] at Cs
    rw [hk] at Ck
    clear hf hself hk
    generalize cmpV ⟨k0, i0, s0⟩ ⟨k1, i1, s1⟩ = X at *
    generalize cmpV ⟨k1, i1, s1⟩ ⟨k2, i2, s2⟩ = Y at *
    generalize cmpV ⟨k0, i0, s0⟩ ⟨k2, i2, s2⟩ = Z at *
    have x1 : -1 ≤ X := by omega
    have x2 : X ≤ 1 := by omega
    have HX : Hid (X = -1 ∨ X = 0 ∨ X = 1) := hXr
    have HY : Hid (Y = -1 ∨ Y = 0 ∨ Y = 1) := hYr
    have HZ : Hid (Z = -1 ∨ Z = 0 ∨ Z = 1) := hZr
    have HT1 : Hid (X ≤ 0 → Y ≤ 0 → Z ≤ 0) := hT1
    have HT2 : Hid (0 ≤ X → 0 ≤ Y → 0 ≤ Z) := hT2
    clear hXr hYr hZr hT1 hT2
    obtain ⟨c0, c1, c2, d0, d1, d2, e0, e1, e2, HB1⟩ := HS1
    go_wp2_with fail
    refine (Cf _).mono ?_
    rintro e w2 ⟨rfl, hb⟩
    obtain ⟨c0, c1, c2, d0, d1, d2, e0, e1, e2, HB1⟩ := keep3 hb ⟨c0, c1, c2, d0, d1, d2, e0, e1, e2, HB1⟩
    go_wp2_with fail
    refine (Cs _).mono ?_
    rintro e w3 ⟨rfl, hb⟩
    obtain ⟨c0, c1, c2, d0, d1, d2, e0, e1, e2, HB1⟩ := keep3 hb ⟨c0, c1, c2, d0, d1, d2, e0, e1, e2, HB1⟩
    go_wp2_with fail
    refine (Ck _).mono ?_
    rintro e w4 ⟨rfl, hb⟩
    obtain ⟨c0, c1, c2, d0, d1, d2, e0, e1, e2, HB1⟩ := keep3 hb ⟨c0, c1, c2, d0, d1, d2, e0, e1, e2, HB1⟩
    rcases HX.out with rfl | rfl | rfl <;> rcases HY.out with rfl | rfl | rfl <;> rcases HZ.out with rfl | rfl | rfl
    all_goals first
      | (exfalso; have h1 := HT1.out (by omega) (by omega); omega)
      | (exfalso; have h1 := HT2.out (by omega) (by omega); omega)
      | skip
    all_goals (go_wp2_with fail; refine (vwakes_any V _).mono ?_; rintro e w5 ⟨rfl, hb5⟩; go_wp2; go_ret; exact ⟨rfl, chain HB1.out hb5⟩)

end Go.Proofs.Ytfjckfjaekpffaa
