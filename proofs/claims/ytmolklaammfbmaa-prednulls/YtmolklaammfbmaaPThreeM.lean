/-
  What PredThree's walk wants: raddlelaw15's count, and what Holds answers of its predicates.
-/
import Derived.Test.YtmolklaammfbmaaRows
import Derived.Test.YtmolklaammfbmaaPWakes
import Derived.Test.YtmolklaammfbmaaRFits
namespace Go.Proofs.Ytmolklaammfbmaa
open Go.RowKit Go.Lib
set_option linter.unusedVariables false

/-- How many are true. -/
def cntB (l : List Bool) : Nat := l.count true

theorem cntB_le (l : List Bool) : cntB l ≤ l.length := List.count_le_length

set_option maxHeartbeats 400000 in
theorem count15_any (g n cap : Nat) (l : List Bool) (w : World) (hn : l.length = n) (h3 : n ≤ 1000) (hc : ∀ i (hi : i < l.length), w.cell? ⟨g, i, none⟩ = some (.bool l[i])) :
    Calls Try.prog 18 #[.slice (some ⟨g, 0, none⟩) n cap] w fun e w' => e = .returned (.int .i64 (cntB l : Int)) ∧ Below w.heap.size w w' := by
  have HN : Hid (l.length = n) := hn
  clear hn
  go_enter Try.func18, Try.ntmps18
  go_wp2
  go_loop [3, 4] (fun c i => ∃ k q : Nat, k ≤ n ∧ q ≤ k ∧ i = .int .i64 k ∧ c = .int .i64 q ∧ Hid (cntB (l.take k) = q)) (fun _ i => n - (RowKit.intOf i).toNat)
  case atStart => exact ⟨0, 0, Nat.zero_le _, Nat.le_refl _, rfl, rfl, by show _ = _; simp [cntB]⟩
  case round =>
    obtain ⟨k, q, hk, hq, rfl, rfl, hT⟩ := hrel
    by_cases hlt : k < n
    · have hkl : k < l.length := by rw [HN.out]; exact hlt
      have hck := hc k hkl
      have HS : Hid (cntB (l.take (k + 1)) = q + (if l[k] = true then 1 else 0)) := by
        have h := hT.out
        unfold cntB at h ⊢
        show _ = _
        rw [List.take_succ_eq_append_getElem hkl, List.count_append, h]
        cases l[k] <;> simp
      clear hc
      generalize l[k] = b at *
      cases b with
      | true =>
        go_wp2
        go_round
        case rel => exact ⟨k + 1, q + 1, by omega, by omega, by go_num, by go_num, by rw [HS.out]; rfl⟩
        case measure => simp [RowKit.intOf]; omega
      | false =>
        go_wp2
        go_round
        case rel => exact ⟨k + 1, q, by omega, by omega, by go_num, rfl, by rw [HS.out]; rfl⟩
        case measure => simp [RowKit.intOf]; omega
    · have h := hT.out
      rw [List.take_of_length_le (by rw [HN.out]; omega)] at h
      have HH : Hid (cntB l = q) := h
      clear h
      go_wp2
      go_ret
      exact ⟨by rw [HH.out]; rfl, below_rfl _⟩

/-- An index drawn out of a row, as the walk has it. -/
theorem modAt (k : Int) (m : Nat) (h1 : 1 ≤ m) (h40 : m ≤ 1000) : ∃ j : Nat, j < m ∧ IntKind.i64.wrap ((IntKind.u64.wrap k).tmod (m : Int)) = (j : Int) ∧ wrap64 ((IntKind.u64.wrap k).tmod (m : Int)) = (j : Int) ∧ IntKind.u64.wrap ((IntKind.u64.wrap k).tmod (m : Int)) = (j : Int) := by
  obtain ⟨j, hj, he⟩ := modLen k m h1 h40
  have h0 : 0 ≤ IntKind.u64.wrap k := by rw [IntKind.wrap_u64]; omega
  have h2 : (IntKind.u64.wrap k).tmod (m : Int) = IntKind.u64.wrap k % (m : Int) := Int.tmod_eq_emod_of_nonneg h0
  have h3 := Int.emod_nonneg (IntKind.u64.wrap k) (show (m : Int) ≠ 0 by omega)
  have h4 := Int.emod_lt_of_pos (IntKind.u64.wrap k) (show (0 : Int) < (m : Int) by omega)
  have h5 : (IntKind.u64.wrap k).tmod (m : Int) = (j : Int) := by
    rw [← he, h2, IntWalk.wrap64_in _ ⟨by omega, by omega⟩]
  refine ⟨j, hj, ?_, he, ?_⟩
  · rw [h5, IntKind.wrap_i64]; omega
  · rw [h5, IntKind.wrap_u64]; omega

theorem placeB_nat {i n : Nat} (h : i < n) : placeB (i : Int) (n : Int) = true := placeB_iff.2 ⟨by omega, by omega⟩

section
variable {R : List PV} {i j : Nat} (hi : i < R.length) (hj : j < R.length) (v : PV)

theorem holds_4 : holdsP ⟨4, i, j, v⟩ R = decide (cmpV R[i] R[j] < 0) := by
  rw [holdsP_4 (by simp [hasB, placeB_nat hi, placeB_nat hj]) rfl]
  simp only [atV_nat R i hi, atV_nat R j hj]

theorem holds_3 : holdsP ⟨3, i, j, v⟩ R = (cmpV R[i] R[j] == 0) := by
  rw [holdsP_3 (by simp [hasB, placeB_nat hi, placeB_nat hj]) rfl]
  simp only [atV_nat R i hi, atV_nat R j hj]

theorem holds_1 (o : Int) : holdsP ⟨1, i, o, v⟩ R = (cmpV R[i] v == 0) := by
  rw [holdsP_1 (by simp [hasB, placeB_nat hi, askO]) rfl]
  simp only [atV_nat R i hi]

theorem holds_2 (o : Int) : holdsP ⟨2, i, o, v⟩ R = decide (cmpV R[i] v < 0) := by
  rw [holdsP_2 (by simp [hasB, placeB_nat hi, askO]) rfl]
  simp only [atV_nat R i hi]

theorem holds_5 (o : Int) : holdsP ⟨5, i, o, v⟩ R = (R[i].k == 1) := by
  rw [holdsP_5 (by simp [hasB, placeB_nat hi, askO]) rfl]
  simp only [atV_nat R i hi]

theorem holds_6 (o : Int) : holdsP ⟨6, i, o, v⟩ R = !(R[i].k == 1) := by
  rw [holdsP_6 (by simp [hasB, placeB_nat hi, askO]) rfl]
  simp only [atV_nat R i hi]

end

theorem holds_out {R : List PV} {k i o : Int} {v : PV} (h : i < 0 ∨ (R.length : Int) ≤ i) : holdsP ⟨k, i, o, v⟩ R = false :=
  holdsP_no (by
    have : placeB i (R.length : Int) = false := by
      cases hp : placeB i (R.length : Int) with
      | false => rfl
      | true => have := placeB_iff.1 hp; omega
    simp [hasB, this])

/-- Less, more, or equal: just one. -/
theorem three_one (u v : PV) : cntB [decide (cmpV u v < 0), decide (cmpV v u < 0), cmpV u v == 0] = 1 := by
  have h1 := cmpV_range u v
  have h2 := cmpV_flip u v
  rcases h1 with h | h | h <;> rw [h] at h2 <;> simp [h, h2, cntB]

theorem null_one (b : Bool) : cntB [b, !b] = 1 := by cases b <;> rfl

theorem less_eq (u v : PV) (h : decide (cmpV u v < 0) = true) : (cmpV u v == 0) = false := by
  simp at h ⊢
  omega

theorem same_eq (u v : PV) : sameV u v = (cmpV u v == 0) := by
  rw [Bool.eq_iff_iff, sameV_iff, beq_iff_eq, cmpV_zero]

end Go.Proofs.Ytmolklaammfbmaa
