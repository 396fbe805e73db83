/-
  What the calls of package row answer, as the laws' walks ask it; plain facts on rows: what is written is read, the order is total.
-/
import Derived.Test.YtmolklaammfbmaaRows
import Derived.Test.YtmolklaammfbmaaRPick
import Derived.Test.YtmolklaammfbmaaRRead
import Derived.Test.YtmolklaammfbmaaRInts
import Derived.Test.YtmolklaammfbmaaVApi
namespace Go.Proofs.Ytmolklaammfbmaa
open Go.RowKit Go.Lib
set_option linter.unusedVariables false

/-- Bytes' answer. -/
def putR (vs : List PV) : List UInt8 × Int := if chkR vs = 0 then (bytesR vs, 0) else ([], chkR vs)

theorem chkR_ok {vs : List PV} : chkR vs = 0 ↔ vs.length ≤ 12 ∧ vs.all okV = true := by
  unfold chkR errR
  by_cases h : 12 < vs.length
  · rw [if_pos h]; omega
  · rw [if_neg h]
    cases hv : vs.all okV <;> simp <;> omega

theorem putR_ok {vs : List PV} (h : chkR vs = 0) : putR vs = (bytesR vs, 0) := by unfold putR; rw [if_pos h]
theorem putR_no {vs : List PV} (h : chkR vs ≠ 0) : putR vs = ([], chkR vs) := by unfold putR; rw [if_neg h]

theorem readVs_bytes : ∀ {vs : List PV} {l r : List UInt8} {p : Nat}, vs.all okV = true → l.drop p = bytesVs vs ++ r → readVs vs.length l (p : Int) = some (vs, (p : Int) + (bytesVs vs).length)
  | [], l, r, p, _, _ => by simp [readVs, bytesVs]
  | v :: vs, l, r, p, h, hd => by
    simp only [List.all_cons, Bool.and_eq_true] at h
    have hd' : l.drop p = bytesV v ++ (bytesVs vs ++ r) := by rw [hd]; simp [bytesVs]
    have h1 := readV_bytes h.1 hd'
    have hd2 : l.drop (p + (bytesV v).length) = bytesVs vs ++ r := by rw [← List.drop_drop, hd', List.drop_left]
    have h2 := readVs_bytes h.2 hd2
    rw [List.length_cons, readVs, h1, if_pos rfl]
    simp only
    rw [show (p : Int) + ((bytesV v).length : Int) = ((p + (bytesV v).length : Nat) : Int) from by omega, h2]
    simp [bytesVs]
    omega

/-- What is written is read. -/
theorem readR_bytes {vs : List PV} {l r : List UInt8} {p : Nat} (hok : chkR vs = 0) (h : l.drop p = bytesR vs ++ r) : readR l (p : Int) = (vs, (p : Int) + (bytesR vs).length, 0) := by
  obtain ⟨h12, hall⟩ := chkR_ok.1 hok
  unfold bytesR at h
  rw [List.cons_append] at h
  obtain ⟨hp, hx, hr⟩ := at_of_drop h
  unfold readR
  rw [if_neg (by omega), if_neg (by omega), show ((p : Int).toNat) = p from by omega, hx, ofNat_small (by omega), if_neg (by omega), show (p : Int) + 1 = ((p + 1 : Nat) : Int) from by omega, readVs_bytes hall hr]
  simp [bytesR]
  omega

theorem readVs_inv : ∀ {n : Nat} {l : List UInt8} {p : Nat} {vs : List PV} {q : Int}, readVs n l (p : Int) = some (vs, q) → vs.length = n ∧ vs.all okV = true ∧ (∃ r, l.drop p = bytesVs vs ++ r) ∧ q = (p : Int) + (bytesVs vs).length
  | 0, l, p, vs, q, h => by
    simp [readVs] at h
    obtain ⟨rfl, rfl⟩ := h
    simp [bytesVs]
  | n + 1, l, p, vs, q, h => by
    rw [readVs] at h
    split at h
    · rename_i he
      generalize hr : readV l (p : Int) = r at *
      obtain ⟨v, q1, e⟩ := r
      simp only at he h
      subst he
      obtain ⟨p', hp', hok, ⟨rest, hd⟩, hq1⟩ := readV_inv hr
      obtain rfl : p = p' := by omega
      rw [Option.map_eq_some_iff] at h
      obtain ⟨⟨us, q2⟩, h2, he2⟩ := h
      simp only [Prod.mk.injEq] at he2
      obtain ⟨rfl, rfl⟩ := he2
      rw [hq1, show (p : Int) + ((bytesV v).length : Int) = ((p + (bytesV v).length : Nat) : Int) from by omega] at h2
      obtain ⟨hl, ha, ⟨r2, hd2⟩, hq2⟩ := readVs_inv h2
      refine ⟨by simp [hl], by simp [hok, ha], ⟨r2, ?_⟩, ?_⟩
      · rw [← List.drop_drop, hd, List.drop_left] at hd2
        rw [hd, hd2]
        simp [bytesVs]
      · rw [hq2]
        simp [bytesVs]
        omega
    · cases h

/-- What is read is written as it stood. -/
theorem readR_inv {l : List UInt8} {p : Int} {vs : List PV} {n : Int} (h : readR l p = (vs, n, 0)) : ∃ q : Nat, p = q ∧ chkR vs = 0 ∧ (∃ r, l.drop q = bytesR vs ++ r) ∧ n = (q : Int) + (bytesR vs).length := by
  unfold readR at h
  split at h
  · simp at h
  · split at h
    · simp at h
    · obtain ⟨q, rfl⟩ : ∃ q : Nat, p = q := ⟨p.toNat, by omega⟩
      rw [show ((q : Int).toNat) = q from by omega] at h
      split at h
      · simp at h
      · rename_i h12
        split at h
        · simp at h
        · rename_i r hr
          obtain ⟨us, m⟩ := r
          simp only [Prod.mk.injEq, and_true] at h
          obtain ⟨rfl, rfl⟩ := h
          rw [show (q : Int) + 1 = ((q + 1 : Nat) : Int) from by omega] at hr
          obtain ⟨hl, ha, ⟨rest, hd⟩, hm⟩ := readVs_inv hr
          have hp : q < l.length := by omega
          refine ⟨q, rfl, chkR_ok.2 ⟨by omega, ha⟩, ⟨rest, ?_⟩, ?_⟩
          · rw [drop_at hp, hd]
            unfold bytesR
            rw [hl, List.cons_append]
            congr 1
            simp
          · rw [hm]
            simp [bytesR]
            omega

end Go.Proofs.Ytmolklaammfbmaa
