/-
  DotSteps' walk: what the law answers, whatever its numbers and its dot.
-/
import Derived.Test.YtljikgjgcpheaaaRows
import Derived.Test.YtljikgjgcpheaaaDLaws
import Derived.Test.YtljikgjgcpheaaaDMake
import Derived.Laws.OwnMore
namespace Go.Proofs.Ytljikgjgcpheaaa
open Go.RowKit Go.Lib
set_option linter.unusedVariables false

theorem peers_of (k : Int) : ∃ n : Nat, (1 ≤ n ∧ n ≤ 5) ∧ wrap64 (1 + wrap64 ((IntKind.u64.wrap k).tmod 5)) = (n : Int) := by
  have h0 : 0 ≤ IntKind.u64.wrap k := by rw [IntKind.wrap_u64]; omega
  have h1 : (IntKind.u64.wrap k).tmod 5 = IntKind.u64.wrap k % 5 := Int.tmod_eq_emod_of_nonneg h0
  have h2 : wrap64 ((IntKind.u64.wrap k).tmod 5) = (IntKind.u64.wrap k).tmod 5 := IntWalk.wrap64_in _ ⟨by omega, by omega⟩
  have h3 : wrap64 (1 + (IntKind.u64.wrap k).tmod 5) = 1 + (IntKind.u64.wrap k).tmod 5 := IntWalk.wrap64_in _ ⟨by omega, by omega⟩
  rw [h2, h3]
  exact ⟨(1 + (IntKind.u64.wrap k).tmod 5).toNat, by omega, by omega⟩

theorem modPlace (k : Int) (m : Nat) (h1 : 1 ≤ m) (h40 : m ≤ 1000) : ∃ j : Nat, j < m ∧ wrap64 ((IntKind.u64.wrap k).tmod (m : Int)) = (j : Int) := by
  have h0 : 0 ≤ IntKind.u64.wrap k := by rw [IntKind.wrap_u64]; omega
  have h2 : (IntKind.u64.wrap k).tmod (m : Int) = IntKind.u64.wrap k % (m : Int) := Int.tmod_eq_emod_of_nonneg h0
  have h3 := Int.emod_nonneg (IntKind.u64.wrap k) (show (m : Int) ≠ 0 by omega)
  have h4 := Int.emod_lt_of_pos (IntKind.u64.wrap k) (show (0 : Int) < (m : Int) by omega)
  refine ⟨(IntKind.u64.wrap k % (m : Int)).toNat, by omega, ?_⟩
  rw [h2, IntWalk.wrap64_in _ ⟨by omega, by omega⟩]
  omega

/-- Noughts, and so many steps from there. -/
def Stepped (N : List Int) (n k : Nat) : Prop := N.length = n ∧ (∀ x ∈ N, 0 ≤ x) ∧ N.sum = (k : Int)

theorem sum_nonneg : ∀ {N : List Int}, (∀ x ∈ N, 0 ≤ x) → 0 ≤ N.sum
  | [], _ => by simp
  | x :: N, h => by
    have h1 := h x (by simp)
    have h2 := sum_nonneg (N := N) (fun y hy => h y (by simp [hy]))
    rw [List.sum_cons]
    omega

theorem le_sum : ∀ {N : List Int}, (∀ x ∈ N, 0 ≤ x) → ∀ x ∈ N, x ≤ N.sum
  | [], _, x, hx => by cases hx
  | y :: N, h, x, hx => by
    have h1 := h y (by simp)
    have hn := sum_nonneg (N := N) (fun z hz => h z (by simp [hz]))
    rw [List.sum_cons]
    rcases List.mem_cons.1 hx with rfl | hx
    · omega
    · have := le_sum (N := N) (fun z hz => h z (by simp [hz])) x hx
      omega

theorem sum_set : ∀ {N : List Int} {i : Nat} (h : i < N.length) (x : Int), (N.set i x).sum = N.sum - N[i] + x
  | [], _, h, _ => absurd h (by simp)
  | y :: N, 0, _, x => by simp; omega
  | y :: N, i + 1, h, x => by
    have ih := sum_set (N := N) (i := i) (by simpa using h) x
    simp only [List.set_cons_succ, List.sum_cons, ih, List.getElem_cons_succ]
    omega

theorem Stepped.small {N : List Int} {n k : Nat} (h : Stepped N n k) {i : Nat} (hi : i < N.length) : 0 ≤ N[i] ∧ N[i] ≤ k := by
  have h1 := h.2.1 _ (List.getElem_mem hi)
  have h2 := le_sum h.2.1 _ (List.getElem_mem hi)
  rw [h.2.2] at h2
  exact ⟨h1, h2⟩

theorem Stepped.right {N : List Int} {n k : Nat} (h : Stepped N n k) (hk : k ≤ 101) : rightD N = true := rightD_iff.2 fun i hi => by
  have := h.small hi
  omega

theorem Stepped.step {N : List Int} {n k z : Nat} (h : Stepped N n k) (hz : z < N.length) : Stepped (N.set z (N[z] + 1)) n (k + 1) := by
  refine ⟨by rw [List.length_set]; exact h.1, fun x hx => ?_, ?_⟩
  · rcases List.mem_or_eq_of_mem_set hx with hx | rfl
    · exact h.2.1 x hx
    · have := (h.small hz).1
      omega
  · rw [sum_set hz, h.2.2]
    omega

theorem Stepped.zero (n : Nat) : Stepped (List.replicate n 0) n 0 := by
  refine ⟨by simp, fun x hx => ?_, by simp⟩
  rw [List.eq_of_mem_replicate hx]
  exact Int.le_refl _

/-- All that the law asks of one step. -/
theorem step_facts {N : List Int} {n k z : Nat} (h : Stepped N n k) (hk : k ≤ 100) (h1 : 1 ≤ n) (h5 : n ≤ 5) (hz : z < N.length) :
    hasD N (z : Int) (N[z] + 1) = false ∧ nextD N (z : Int) (N[z] + 1) = true ∧ addD N (z : Int) (N[z] + 1) = (N.set z (N[z] + 1), 0) ∧ hasD (N.set z (N[z] + 1)) (z : Int) (N[z] + 1) = true ∧
      leD N (N.set z (N[z] + 1)) = true ∧ leD (N.set z (N[z] + 1)) N = false ∧ nextD (N.set z (N[z] + 1)) (z : Int) (N[z] + 1) = false ∧ addD (N.set z (N[z] + 1)) (z : Int) (N[z] + 1) = ([], 1) := by
  have hs := h.small hz
  have hp : placeD N (z : Int) = true := by simp [placeD]; omega
  have hp' : placeD (N.set z (N[z] + 1)) (z : Int) = true := by rw [placeD_eq (List.length_set ..)]; exact hp
  have hat : atD N (z : Int) = N[z] := by simp [atD, List.getElem?_eq_getElem hz]
  have hat' : atD (N.set z (N[z] + 1)) (z : Int) = N[z] + 1 := by simp [atD, hz]
  have c0 : chkD N = 0 := chkD_ok.2 ⟨by rw [h.1]; exact h1, by rw [h.1]; exact h5, h.right (by omega)⟩
  have h' := h.step hz
  have c1 : chkD (N.set z (N[z] + 1)) = 0 := chkD_ok.2 ⟨by rw [h'.1]; exact h1, by rw [h'.1]; exact h5, h'.right (by omega)⟩
  have e1 : hasD N (z : Int) (N[z] + 1) = false := by simp [hasD, hat]; omega
  have e2 : nextD N (z : Int) (N[z] + 1) = true := by simp [nextD, hp, hat]
  have e3 : nextD (N.set z (N[z] + 1)) (z : Int) (N[z] + 1) = false := by simp [nextD, hat']; omega
  refine ⟨e1, e2, ?_, ?_, ?_, ?_, e3, ?_⟩
  · unfold addD
    rw [if_neg (by simp [c0]), if_pos ⟨e2, by omega⟩, show ((z : Int).toNat) = z from by omega]
  · simp [hasD, hp', hat']
    omega
  · refine leD_of (List.length_set ..).symm fun i a1 a2 => ?_
    rw [List.getElem_set]
    split
    · subst_vars; omega
    · exact Int.le_refl _
  · cases hh : leD (N.set z (N[z] + 1)) N with
    | false => rfl
    | true =>
      have := (leD_iff.1 hh).2 z (by simpa using hz) hz
      simp at this
      omega
  · unfold addD
    rw [if_neg (by simp [c1]), if_neg (by simp [e3])]

end Go.Proofs.Ytljikgjgcpheaaa
