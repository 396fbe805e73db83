/-
  Texts of the proof of SetExact, one behind the other.
-/
import Derived.Test.YtajlkaedkifaoaaRows
import Derived.Test.YtajlkaedkifaoaaG20SetExact
import Derived.Test.YtajlkaedkifaoaaG33SetExact
import Derived.Deep.Cut
namespace Go.Proofs.Ytajlkaedkifaoaa
open Go.RowKit Go.Lib
set_option linter.unusedVariables false

theorem cmpR_self : ∀ l : List PV, cmpR l l = 0
  | [] => rfl
  | v :: l => by rw [cmpR, cmpV_self, if_neg (by simp), cmpR_self l]

theorem cmpR_range : ∀ l r : List PV, cmpR l r = -1 ∨ cmpR l r = 0 ∨ cmpR l r = 1
  | [], [] => .inr (.inl rfl)
  | [], _ :: _ => .inl rfl
  | _ :: _, [] => .inr (.inr rfl)
  | v :: l, u :: r => by
    rw [cmpR]
    split
    · exact cmpV_range v u
    · exact cmpR_range l r

theorem cmpR_zero : ∀ l r : List PV, cmpR l r = 0 ↔ l = r
  | [], [] => by simp [cmpR]
  | [], _ :: _ => by simp [cmpR]
  | _ :: _, [] => by simp [cmpR]
  | v :: l, u :: r => by
    rw [cmpR]
    split
    · rename_i h
      constructor
      · intro h'; exact absurd h' h
      · intro h'; simp only [List.cons.injEq] at h'; rw [h'.1, cmpV_self] at h; exact absurd rfl h
    · rename_i h
      have e := (cmpV_zero v u).1 (Decidable.of_not_not h)
      rw [cmpR_zero l r]
      simp [e]

theorem cmpR_flip : ∀ l r : List PV, cmpR r l = -cmpR l r
  | [], [] => rfl
  | [], _ :: _ => rfl
  | _ :: _, [] => rfl
  | v :: l, u :: r => by
    rw [cmpR, cmpR, cmpV_flip v u, cmpR_flip l r]
    by_cases h : cmpV v u = 0
    · rw [if_neg (by omega), if_neg (by omega)]
    · rw [if_pos (by omega), if_pos (by omega)]

theorem cmpR_le_trans : ∀ {l r s : List PV}, cmpR l r ≤ 0 → cmpR r s ≤ 0 → cmpR l s ≤ 0
  | [], _, [], _, _ => by simp [cmpR]
  | [], _, _ :: _, _, _ => by simp [cmpR]
  | v :: l, [], _, h, _ => by simp [cmpR] at h
  | v :: l, u :: r, [], _, h => by simp [cmpR] at h
  | v :: l, u :: r, x :: s, h, h' => by
    rw [cmpR] at h h' ⊢
    by_cases e1 : cmpV v u = 0
    · rw [if_neg (by omega)] at h
      have e := (cmpV_zero v u).1 e1
      subst e
      by_cases e2 : cmpV v x = 0
      · rw [if_neg (by omega)] at h' ⊢
        exact cmpR_le_trans h h'
      · rw [if_pos e2] at h' ⊢
        exact h'
    · rw [if_pos e1] at h
      by_cases e2 : cmpV u x = 0
      · have e := (cmpV_zero u x).1 e2
        subst e
        rw [if_pos e1]
        exact h
      · rw [if_pos e2] at h'
        have h1 := cmpV_le_trans h h'
        have n1 : cmpV v u = -1 := by rcases cmpV_range v u with h | h | h <;> omega
        have n2 : cmpV u x = -1 := by rcases cmpV_range u x with h | h | h <;> omega
        have n3 : cmpV v x = -1 := (cmpV_neg v x).2 (ltV_trans ((cmpV_neg v u).1 n1) ((cmpV_neg u x).1 n2))
        rw [if_pos (by omega)]
        omega

theorem cmpR_ge_trans {l r s : List PV} (h : 0 ≤ cmpR l r) (h' : 0 ≤ cmpR r s) : 0 ≤ cmpR l s := by
  have := cmpR_le_trans (l := s) (r := r) (s := l) (by rw [cmpR_flip]; omega) (by rw [cmpR_flip]; omega)
  rw [cmpR_flip] at this
  omega

theorem cmpR_take : ∀ (l : List PV) (j : Nat), j < l.length → cmpR (l.take j) l = -1
  | [], _, h => by simp at h
  | v :: l, 0, _ => by simp [cmpR]
  | v :: l, j + 1, h => by
    rw [List.take_succ_cons, cmpR, cmpV_self, if_neg (by simp)]
    exact cmpR_take l j (by simpa using h)

theorem sameVs_eq (l r : List PV) : sameVs l r = decide (cmpR l r = 0) := by
  rw [Bool.eq_iff_iff, sameVs_iff, decide_eq_true_eq, cmpR_zero]

/-- Heavy, of a row that came in: it answers, and either it answers true, or there are at most 40 values, none of them too long. -/
theorem heavy_in (a : Option Addr) (n cap : Nat) (vs : List PV) (w : World) (hv : IsVals w a n cap vs) :
    (Calls Try.prog 9 #[.slice a n cap] w fun e w' => e = .returned (.bool true) ∧ w' = w) ∨ (n ≤ 40 ∧ heavyV vs = false ∧ Calls Try.prog 9 #[.slice a n cap] w fun e w' => e = .returned (.bool false) ∧ w' = w) := by
  obtain ⟨hn, hcap, hr, hnil⟩ := hv.vals
  by_cases h40 : 40 < n
  · exact .inl (heavy_long a n cap w h40 hv.small)
  have C := heavy_few a n cap vs w hn (by omega) hr
  cases hh : heavyV vs with
  | true => rw [hh] at C; exact .inl C
  | false => rw [hh] at C; exact .inr ⟨by omega, rfl, C⟩

end Go.Proofs.Ytajlkaedkifaoaa
