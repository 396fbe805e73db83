/-
  Matrices of numbers as plain functions: what is right, what is learned, and what follows of it. No program is named here.
-/
import Derived.Test.YtljikgjgcpheaaaDCalc
namespace Go.Proofs.Ytljikgjgcpheaaa
set_option linter.unusedVariables false

/-- Check of a matrix. -/
def matD (L : List (List Int)) : Int := if L.length < 1 ∨ 5 < L.length then 2 else if evenD L.length L = true then chksD L else 2

/-- A right matrix of n peers. -/
structure MatR (n : Nat) (L : List (List Int)) : Prop where
  len : L.length = n
  one : 1 ≤ n
  five : n ≤ 5
  each : ∀ v ∈ L, v.length = n ∧ rightD v = true

theorem chksD_zero : ∀ {L : List (List Int)}, chksD L = 0 ↔ ∀ v ∈ L, chkD v = 0
  | [] => by simp [chksD]
  | v :: L => by
    unfold chksD
    by_cases h : chkD v = 0
    · rw [if_neg (by simp [h])]
      simp [h, chksD_zero (L := L)]
    · rw [if_pos h]
      simp [h]

theorem evenD_iff {n : Nat} {L : List (List Int)} : evenD n L = true ↔ ∀ v ∈ L, v.length = n := by
  unfold evenD
  rw [List.all_eq_true]
  simp

theorem matD_ok {L : List (List Int)} : matD L = 0 ↔ MatR L.length L := by
  unfold matD
  by_cases h : L.length < 1 ∨ 5 < L.length
  · rw [if_pos h]
    exact ⟨fun h => by omega, fun ⟨_, h1, h2, _⟩ => by omega⟩
  · rw [if_neg h]
    cases he : evenD L.length L with
    | false =>
      simp only [Bool.false_eq_true, if_false]
      refine ⟨fun h => by omega, fun hm => ?_⟩
      have : evenD L.length L = true := evenD_iff.2 fun v hv => (hm.each v hv).1
      rw [this] at he
      cases he
    | true =>
      simp only [if_true]
      rw [chksD_zero]
      refine ⟨fun hz => ⟨rfl, by omega, by omega, fun v hv => ⟨evenD_iff.1 he v hv, (chkD_ok.1 (hz v hv)).2.2⟩⟩, fun hm v hv => ?_⟩
      have h2 := hm.each v hv
      exact chkD_ok.2 ⟨by omega, by omega, h2.2⟩

theorem MatR.ok {n : Nat} {L : List (List Int)} (h : MatR n L) : matD L = 0 := matD_ok.2 (by rw [h.len]; exact h)

theorem MatR.at_ {n : Nat} {L : List (List Int)} (h : MatR n L) {i : Nat} (hi : i < L.length) : L[i].length = n ∧ rightD L[i] = true := h.each _ (List.getElem_mem hi)

theorem MatR.set {n : Nat} {L : List (List Int)} (h : MatR n L) {N : List Int} (p : Nat) (hN : N.length = n) (hr : rightD N = true) : MatR n (L.set p N) :=
  ⟨by rw [List.length_set]; exact h.len, h.one, h.five, fun v hv => by
    rcases List.mem_or_eq_of_mem_set hv with hv | rfl
    · exact h.each v hv
    · exact ⟨hN, hr⟩⟩

theorem MatR.zero {n : Nat} (h1 : 1 ≤ n) (h5 : n ≤ 5) : MatR n (List.replicate n (List.replicate n 0)) :=
  ⟨by simp, h1, h5, fun v hv => by
    rw [List.eq_of_mem_replicate hv]
    refine ⟨by simp, rightD_iff.2 fun i hi => ?_⟩
    rw [List.getElem_replicate]
    omega⟩

/-- The errors of right lengths are alike. -/
theorem chkD_arg {v : List Int} (h1 : 1 ≤ v.length) (h5 : v.length ≤ 5) (h : chkD v ≠ 0) : chkD v = 1 := by
  unfold chkD at h ⊢
  rw [if_neg (by omega)] at h ⊢
  unfold errD at h ⊢
  split
  · rename_i hh
    rw [if_pos hh] at h
    exact absurd rfl h
  · rfl

theorem chksD_arg : ∀ {L : List (List Int)}, (∀ v ∈ L, 1 ≤ v.length ∧ v.length ≤ 5) → chksD L ≠ 0 → chksD L = 1
  | [], _, h => absurd rfl h
  | v :: L, hl, h => by
    unfold chksD at h ⊢
    by_cases hv : chkD v = 0
    · rw [if_neg (by simp [hv])] at h ⊢
      exact chksD_arg (fun u hu => hl u (by simp [hu])) h
    · rw [if_pos hv]
      exact chkD_arg (hl v (by simp)).1 (hl v (by simp)).2 hv

theorem matD_one_two {L : List (List Int)} (h : matD L ≠ 0) : matD L = 1 ∨ matD L = 2 := by
  unfold matD at h ⊢
  by_cases hl : L.length < 1 ∨ 5 < L.length
  · rw [if_pos hl]; exact .inr rfl
  · rw [if_neg hl] at h ⊢
    cases he : evenD L.length L with
    | false => exact .inr (by simp)
    | true =>
      rw [he] at h
      simp only [if_true] at h ⊢
      refine .inl (chksD_arg (fun v hv => ?_) h)
      have := evenD_iff.1 he v hv
      omega

/-- What Learn makes of right ones. -/
def learnD (L : List (List Int)) (p : Nat) (S : List Int) : List (List Int) := L.set p (maxD (L[p]?.getD []) S)

theorem learnD_at {L : List (List Int)} {p : Nat} {S : List Int} (hp : p < L.length) : learnD L p S = L.set p (maxD L[p] S) := by
  unfold learnD
  rw [List.getElem?_eq_getElem hp]
  rfl

end Go.Proofs.Ytljikgjgcpheaaa
