/-
  What raddlelaw05's wakes answers; DotLess' walk.
-/
import Derived.Test.YtmdjmkpalnhkoaaRows
import Derived.Test.YtmdjmkpalnhkoaaDLeast
import Derived.Test.YtmdjmkpalnhkoaaFrame
namespace Go.Proofs.Ytmdjmkpalnhkoaa
open Go.RowKit Go.Lib
set_option linter.unusedVariables false

theorem all64_two {x y : Int} (h1 : In64 x) (h2 : In64 y) : All64 [x, y] := by
  intro z hz
  simp at hz
  rcases hz with rfl | rfl
  · exact h1
  · exact h2

theorem mergeW : mergeD [2, 0] [1, 3] = ([2, 3], 0) := by decide

set_option maxHeartbeats 1000000 in
theorem dwakes_any (D : DotApi) (w : World) :
    Calls Try.prog 29 #[] w fun e w' => e = .returned (.bool true) ∧ Below w.heap.size w w' := by
  have HA : Hid (RdI .i64 ((w.alloc (.cells #[.int .i64 2, .int .i64 0] 3)).alloc (.cells #[.int .i64 1, .int .i64 3] 3)) (some ⟨w.heap.size, 0, none⟩) [2, 0]) := (rdI_two w _ rfl 2 0).later (alloc_below _ _)
  have HB : Hid (RdI .i64 ((w.alloc (.cells #[.int .i64 2, .int .i64 0] 3)).alloc (.cells #[.int .i64 1, .int .i64 3] 3)) (some ⟨w.heap.size + 1, 0, none⟩) [1, 3]) := rdI_two _ _ (by simp) 1 3
  go_enter Try.func29, Try.ntmps29
  go_wp2_with fail
  refine (D.merge _ _ 2 2 2 2 [2, 0] [1, 3] _ rfl rfl (by omega) (by omega) (all64_two (in64 (by decide)) (in64 (by decide))) (all64_two (in64 (by decide)) (in64 (by decide))) HA.out HB.out).mono ?_
  rintro e w1 ⟨a, n, cap, rfl, hn, _, _, _, hr, _, hb1⟩
  rw [mergeW] at hn hr ⊢
  simp only [List.length_cons, List.length_nil] at hn hr ⊢
  subst hn
  have HR : Hid (RdI .i64 w1 a [2, 3]) := hr
  have HX : Hid (Below w.heap.size w w1) := chain (below_two _ _ _) hb1
  clear hr hb1 HA HB
  have HC : Hid (RdI .i64 (w1.alloc (.cells #[.int .i64 2, .int .i64 3] 3)) (some ⟨w1.heap.size, 0, none⟩) [2, 3]) := rdI_two w1 _ rfl 2 3
  have HR2 : Hid (RdI .i64 (w1.alloc (.cells #[.int .i64 2, .int .i64 3] 3)) a [2, 3]) := HR.out.later (alloc_below _ _)
  go_wp2_with fail
  refine (keepInts_any a (some ⟨w1.heap.size, 0, none⟩) 2 2 cap 2 [2, 3] [2, 3] _ rfl rfl (by omega) (by omega) HR2.out HC.out).mono ?_
  rintro e w2 ⟨rfl, hb2⟩
  rw [decide_eq_true rfl]
  replace HR : Hid (RdI .i64 w2 a [2, 3]) := HR2.out.later hb2
  replace HX : Hid (Below w.heap.size w w2) := chain HX.out (chain (alloc_below _ _) hb2)
  clear HR2 HC hb2
  go_wp2_with fail
  refine (D.has a 2 cap 1 3 [2, 3] _ rfl (by omega) (all64_two (in64 (by decide)) (in64 (by decide))) (in64 (by decide)) (in64 (by decide)) HR.out).mono ?_
  rintro e w3 ⟨rfl, hb3⟩
  rw [show hasD [2, 3] 1 3 = true from by decide]
  replace HR : Hid (RdI .i64 w3 a [2, 3]) := HR.out.later hb3
  replace HX : Hid (Below w.heap.size w w3) := chain HX.out hb3
  clear hb3
  go_wp2_with fail
  refine (D.next a 2 cap 0 3 [2, 3] _ rfl (by omega) (all64_two (in64 (by decide)) (in64 (by decide))) (in64 (by decide)) (in64 (by decide)) HR.out).mono ?_
  rintro e w4 ⟨rfl, hb4⟩
  rw [show nextD [2, 3] 0 3 = true from by decide]
  replace HR : Hid (RdI .i64 w4 a [2, 3]) := HR.out.later hb4
  replace HX : Hid (Below w.heap.size w w4) := chain HX.out hb4
  clear hb4
  have HZ : Hid (RdI .i64 (w4.alloc (.cells #[.int .i64 0, .int .i64 0] 3)) (some ⟨w4.heap.size, 0, none⟩) [0, 0]) := rdI_two w4 _ rfl 0 0
  have HR2 : Hid (RdI .i64 (w4.alloc (.cells #[.int .i64 0, .int .i64 0] 3)) a [2, 3]) := HR.out.later (alloc_below _ _)
  go_wp2_with fail
  refine (D.le _ a 2 2 2 cap [0, 0] [2, 3] _ rfl rfl (by omega) (by omega) (all64_two (in64 (by decide)) (in64 (by decide))) (all64_two (in64 (by decide)) (in64 (by decide))) HZ.out HR2.out).mono ?_
  rintro e w5 ⟨rfl, hb5⟩
  rw [show leD [0, 0] [2, 3] = true from by decide]
  go_wp2
  go_ret
  exact ⟨rfl, chain HX.out (chain (alloc_below _ _) hb5)⟩

/-- Three dots' boxes stay. -/
theorem keep3D {W w w' : World} {g0 g1 g2 : Nat} {p0 k0 p1 k1 p2 k2 : Int} (hb : Below w.heap.size w w')
    (h : w.cell? ⟨g0, 0, none⟩ = some (.int .i64 p0) ∧ w.cell? ⟨g0, 1, none⟩ = some (.int .i64 k0) ∧ w.cell? ⟨g1, 0, none⟩ = some (.int .i64 p1) ∧ w.cell? ⟨g1, 1, none⟩ = some (.int .i64 k1) ∧ w.cell? ⟨g2, 0, none⟩ = some (.int .i64 p2) ∧ w.cell? ⟨g2, 1, none⟩ = some (.int .i64 k2) ∧ Hid (Below W.heap.size W w)) :
    w'.cell? ⟨g0, 0, none⟩ = some (.int .i64 p0) ∧ w'.cell? ⟨g0, 1, none⟩ = some (.int .i64 k0) ∧ w'.cell? ⟨g1, 0, none⟩ = some (.int .i64 p1) ∧ w'.cell? ⟨g1, 1, none⟩ = some (.int .i64 k1) ∧ w'.cell? ⟨g2, 0, none⟩ = some (.int .i64 p2) ∧ w'.cell? ⟨g2, 1, none⟩ = some (.int .i64 k2) ∧ Hid (Below W.heap.size W w') := by
  obtain ⟨h0, h1, h2, h3, h4, h5, h9⟩ := h
  exact ⟨cell_later hb h0, cell_later hb h1, cell_later hb h2, cell_later hb h3, cell_later hb h4, cell_later hb h5, chain h9.out hb⟩

theorem box2 (w : World) (g : Nat) (hg : w.heap.size = g) (x y : Value) (t : TypeId) : (w.alloc (.cells #[x, y] t)).cell? ⟨g, 0, none⟩ = some x ∧ (w.alloc (.cells #[x, y] t)).cell? ⟨g, 1, none⟩ = some y := by
  subst hg
  constructor
  · rw [cell_of_row (w.alloc (.cells #[x, y] t)) w.heap.size 0 #[x, y] t (0, 0) (by show (w.heap.push _)[w.heap.size]? = _; simp)]; rfl
  · rw [cell_of_row (w.alloc (.cells #[x, y] t)) w.heap.size 1 #[x, y] t (0, 0) (by show (w.heap.push _)[w.heap.size]? = _; simp)]; rfl

theorem lessD_trans {p k p' k' p'' k'' : Int} (h : lessD p k p' k' = true) (h' : lessD p' k' p'' k'' = true) : lessD p k p'' k'' = true := by
  unfold lessD at *
  simp at *
  omega

set_option maxHeartbeats 400000 in
theorem dless_walk (D : DotApi) (p0 k0 p1 k1 p2 k2 : Int) (w : World) (i0 : In64 p0) (i1 : In64 k0) (i2 : In64 p1) (i3 : In64 k1) (i4 : In64 p2) (i5 : In64 k2) :
    Calls Try.prog 6 #[.agg #[.int .i64 p0, .int .i64 k0], .agg #[.int .i64 p1, .int .i64 k1], .agg #[.int .i64 p2, .int .i64 k2]] w fun e w' => e = .returned (.bool true) ∧ Below w.heap.size w w' := by
  have B0 : Hid (Below w.heap.size w (((w.alloc (.cells #[.int .i64 p0, .int .i64 k0] 24)).alloc (.cells #[.int .i64 p1, .int .i64 k1] 24)).alloc (.cells #[.int .i64 p2, .int .i64 k2] 24))) := chain (below_two _ _ _) (alloc_below _ _)
  have c := box2 w w.heap.size rfl (.int .i64 p0) (.int .i64 k0) 24
  have d := box2 (w.alloc (.cells #[.int .i64 p0, .int .i64 k0] 24)) (w.heap.size + 1) (by simp) (.int .i64 p1) (.int .i64 k1) 24
  have f := box2 ((w.alloc (.cells #[.int .i64 p0, .int .i64 k0] 24)).alloc (.cells #[.int .i64 p1, .int .i64 k1] 24)) (w.heap.size + 1 + 1) (by simp) (.int .i64 p2) (.int .i64 k2) 24
  have HS := And.intro (cell_later (below_two (w.alloc (.cells #[.int .i64 p0, .int .i64 k0] 24)) (.cells #[.int .i64 p1, .int .i64 k1] 24) (.cells #[.int .i64 p2, .int .i64 k2] 24)) c.1) (And.intro (cell_later (below_two (w.alloc (.cells #[.int .i64 p0, .int .i64 k0] 24)) (.cells #[.int .i64 p1, .int .i64 k1] 24) (.cells #[.int .i64 p2, .int .i64 k2] 24)) c.2) (And.intro (cell_later (alloc_below _ (.cells #[.int .i64 p2, .int .i64 k2] 24)) d.1) (And.intro (cell_later (alloc_below _ (.cells #[.int .i64 p2, .int .i64 k2] 24)) d.2) (And.intro f.1 (And.intro f.2 B0)))))
  clear c d f B0
  go_enter Try.func6, Try.ntmps6
  go_wp2
  generalize ((w.alloc (.cells #[.int .i64 p0, .int .i64 k0] 24)).alloc (.cells #[.int .i64 p1, .int .i64 k1] 24)).alloc (.cells #[.int .i64 p2, .int .i64 k2] 24) = W at *
  go_region_held3 (fun w' => w'.cell? ⟨w.heap.size, 0, none⟩ = some (.int .i64 p0) ∧ w'.cell? ⟨w.heap.size, 1, none⟩ = some (.int .i64 k0) ∧ w'.cell? ⟨w.heap.size + 1, 0, none⟩ = some (.int .i64 p1) ∧ w'.cell? ⟨w.heap.size + 1, 1, none⟩ = some (.int .i64 k1) ∧ w'.cell? ⟨w.heap.size + 1 + 1, 0, none⟩ = some (.int .i64 p2) ∧ w'.cell? ⟨w.heap.size + 1 + 1, 1, none⟩ = some (.int .i64 k2) ∧ Hid (Below w.heap.size w w')) (first | exact keep3D (by assumption) (by assumption) | exact keep3D (Below.refl _ _).drew (by assumption))
    (first | (go_at_call 19; refine (D.less _ _ _ _ _ (by assumption) (by assumption) (by assumption) (by assumption)).mono ?_; rintro e w' ⟨rfl, hb⟩))
  have HS1 : w'.cell? ⟨w.heap.size, 0, none⟩ = some (.int .i64 p0) ∧ w'.cell? ⟨w.heap.size, 1, none⟩ = some (.int .i64 k0) ∧ w'.cell? ⟨w.heap.size + 1, 0, none⟩ = some (.int .i64 p1) ∧ w'.cell? ⟨w.heap.size + 1, 1, none⟩ = some (.int .i64 k1) ∧ w'.cell? ⟨w.heap.size + 1 + 1, 0, none⟩ = some (.int .i64 p2) ∧ w'.cell? ⟨w.heap.size + 1 + 1, 1, none⟩ = some (.int .i64 k2) ∧ Hid (Below w.heap.size w w') := by assumption
  have CAA := fun W => D.less p0 k0 p0 k0 W i0 i1 i0 i1
  have CBC := fun W => D.less p1 k1 p2 k2 W i2 i3 i4 i5
  have CAC := fun W => D.less p0 k0 p2 k2 W i0 i1 i4 i5
  have CK := fun W => keepDot_any p0 k0 p1 k1 W
  rw [show lessD p0 k0 p0 k0 = false from by simp [lessD]] at CAA
  have HT : Hid (lessD p0 k0 p1 k1 = true → lessD p1 k1 p2 k2 = true → lessD p0 k0 p2 k2 = true) := lessD_trans
  have HX : Hid (lessD p0 k0 p1 k1 = (decide (p0 < p1) || (p0 == p1 && decide (k0 < k1)))) := by show _ = _; rw [Bool.eq_iff_iff]; simp [lessD]
  have H3 : Hid ((lessD p0 k0 p1 k1 = true ∧ lessD p1 k1 p0 k0 = false ∧ (decide (p0 = p1) && decide (k0 = k1)) = false) ∨ (lessD p0 k0 p1 k1 = false ∧ lessD p1 k1 p0 k0 = true ∧ (decide (p0 = p1) && decide (k0 = k1)) = false) ∨ (lessD p0 k0 p1 k1 = false ∧ lessD p1 k1 p0 k0 = false ∧ (decide (p0 = p1) && decide (k0 = k1)) = true)) := by
    unfold lessD
    show _ ∨ _
    simp
    omega
  generalize (decide (p0 = p1) && decide (k0 = k1)) = Q at *
  generalize hX : lessD p0 k0 p1 k1 = X at *
  generalize hY : lessD p1 k1 p0 k0 = Y at *
  generalize hU : lessD p1 k1 p2 k2 = U at *
  generalize hV : lessD p0 k0 p2 k2 = V at *
  clear hX hY hU hV
  obtain ⟨c0, c1, d0, d1, f0, f1, HB1⟩ := HS1
  rcases H3.out with ⟨rfl, rfl, rfl⟩ | ⟨rfl, rfl, rfl⟩ | ⟨rfl, rfl, rfl⟩
  all_goals
    go_wp2_with fail
    refine (CK _).mono ?_
    rintro e w2 ⟨rfl, hb⟩
    obtain ⟨c0, c1, d0, d1, f0, f1, HB1⟩ := keep3D hb ⟨c0, c1, d0, d1, f0, f1, HB1⟩
    go_wp2_with fail
    refine (CAA _).mono ?_
    rintro e w3 ⟨rfl, hb⟩
    obtain ⟨c0, c1, d0, d1, f0, f1, HB1⟩ := keep3D hb ⟨c0, c1, d0, d1, f0, f1, HB1⟩
  · cases U with
    | false =>
      go_wp2_with fail
      refine (CBC _).mono ?_
      rintro e w4 ⟨rfl, hb⟩
      obtain ⟨c0, c1, d0, d1, f0, f1, HB1⟩ := keep3D hb ⟨c0, c1, d0, d1, f0, f1, HB1⟩
      by_cases hp : p0 < p1
      · go_wp2_with fail
        refine (dwakes_any D _).mono ?_
        rintro e w9 ⟨rfl, hb9⟩
        go_wp2
        go_ret
        exact ⟨rfl, chain HB1.out hb9⟩
      · have h2 := HX.out
        rw [decide_eq_false hp] at h2
        simp at h2
        obtain ⟨rfl, hk⟩ := h2
        go_wp2_with fail
        refine (dwakes_any D _).mono ?_
        rintro e w9 ⟨rfl, hb9⟩
        go_wp2
        go_ret
        exact ⟨rfl, chain HB1.out hb9⟩
    | true =>
      obtain rfl : V = true := by simpa using HT.out
      go_wp2_with fail
      refine (CBC _).mono ?_
      rintro e w4 ⟨rfl, hb⟩
      obtain ⟨c0, c1, d0, d1, f0, f1, HB1⟩ := keep3D hb ⟨c0, c1, d0, d1, f0, f1, HB1⟩
      go_wp2_with fail
      refine (CAC _).mono ?_
      rintro e w5 ⟨rfl, hb⟩
      obtain ⟨c0, c1, d0, d1, f0, f1, HB1⟩ := keep3D hb ⟨c0, c1, d0, d1, f0, f1, HB1⟩
      by_cases hp : p0 < p1
      · go_wp2_with fail
        refine (dwakes_any D _).mono ?_
        rintro e w9 ⟨rfl, hb9⟩
        go_wp2
        go_ret
        exact ⟨rfl, chain HB1.out hb9⟩
      · have h2 := HX.out
        rw [decide_eq_false hp] at h2
        simp at h2
        obtain ⟨rfl, hk⟩ := h2
        go_wp2_with fail
        refine (dwakes_any D _).mono ?_
        rintro e w9 ⟨rfl, hb9⟩
        go_wp2
        go_ret
        exact ⟨rfl, chain HB1.out hb9⟩
  all_goals
    have h2 := HX.out
    have hp : ¬ p0 < p1 := fun h => by rw [decide_eq_true h] at h2; simp at h2
    by_cases hpe : p0 = p1
    · subst hpe
      have hk : ¬ k0 < k1 := fun h => by rw [decide_eq_true h] at h2; simp at h2
      clear h2
      go_wp2_with fail
      refine (dwakes_any D _).mono ?_
      rintro e w9 ⟨rfl, hb9⟩
      go_wp2
      go_ret
      exact ⟨by first | rfl | (simp [hk]; done) | (simp; omega), chain HB1.out hb9⟩
    · have hpe' : (p0 == p1) = false := by simp [hpe]
      clear h2 hpe
      go_wp2_with fail
      refine (dwakes_any D _).mono ?_
      rintro e w9 ⟨rfl, hb9⟩
      go_wp2
      go_ret
      exact ⟨by first | rfl | (simp [hp]; done) | (simp; omega), chain HB1.out hb9⟩

end Go.Proofs.Ytmdjmkpalnhkoaa
