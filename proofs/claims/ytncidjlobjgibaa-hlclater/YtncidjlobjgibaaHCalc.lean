/-
  Times as plain functions: what is right, how they are ordered, the later one, the next one; what follows of them. No program is named here.
-/
import Derived.Test.YtncidjlobjgibaaDCalc
namespace Go.Proofs.Ytncidjlobjgibaa
set_option linter.unusedVariables false

/-- A time: Phys, Logic, Peer. -/
structure PS where
  p : Int
  l : Int
  q : Int
  deriving DecidableEq

/-- Numbers that an int may be. -/
def S64 (s : PS) : Prop := In64 s.p ∧ In64 s.l ∧ In64 s.q

def noS : PS := ⟨0, 0, 0⟩

def okS (s : PS) : Bool := decide (0 ≤ s.p ∧ s.p ≤ 1099511627776 ∧ 0 ≤ s.l ∧ s.l ≤ 65536 ∧ 0 ≤ s.q ∧ s.q ≤ 4)

def chkS (s : PS) : Int := if okS s = true then 0 else 1

def sgnL (a b : Int) : Int := if a < b then -1 else 1

def cmpS (a b : PS) : Int := if a.p ≠ b.p then sgnL a.p b.p else if a.l ≠ b.l then sgnL a.l b.l else if a.q ≠ b.q then sgnL a.q b.q else 0

def laterS (a b : PS) : PS := if 0 < cmpS b a then b else a

def mayN (a : PS) (wall peer : Int) : Bool := okS a && decide (0 ≤ wall ∧ wall ≤ 1099511627776) && decide (0 ≤ peer ∧ peer ≤ 4)

def nextS (a : PS) (wall peer : Int) : PS × Int :=
  if mayN a wall peer = true then (if a.p < wall then (⟨wall, 0, peer⟩, 0) else if a.l = 65536 then (noS, 12) else (⟨a.p, a.l + 1, peer⟩, 0)) else (noS, 1)

/-- Ahead of. -/
def LtS (a b : PS) : Prop := a.p < b.p ∨ a.p = b.p ∧ (a.l < b.l ∨ a.l = b.l ∧ a.q < b.q)

theorem PS.ext' {a b : PS} (h1 : a.p = b.p) (h2 : a.l = b.l) (h3 : a.q = b.q) : a = b := by
  cases a; cases b; simp_all

theorem LtS.irrefl (a : PS) : ¬ LtS a a := by unfold LtS; omega
theorem LtS.trans {a b c : PS} (h : LtS a b) (k : LtS b c) : LtS a c := by unfold LtS at *; omega
theorem LtS.tri (a b : PS) : LtS a b ∨ a = b ∨ LtS b a := by
  by_cases h : LtS a b
  · exact .inl h
  by_cases k : LtS b a
  · exact .inr (.inr k)
  refine .inr (.inl (PS.ext' ?_ ?_ ?_)) <;> (unfold LtS at *; omega)

theorem cmpS_lt {a b : PS} (h : LtS a b) : cmpS a b = -1 := by
  unfold cmpS sgnL
  unfold LtS at h
  by_cases h1 : a.p = b.p
  · rw [if_neg (by simp [h1])]
    by_cases h2 : a.l = b.l
    · rw [if_neg (by simp [h2]), if_pos (by omega), if_pos (by omega)]
    · rw [if_pos h2, if_pos (by omega)]
  · rw [if_pos h1, if_pos (by omega)]

theorem cmpS_gt {a b : PS} (h : LtS b a) : cmpS a b = 1 := by
  unfold cmpS sgnL
  unfold LtS at h
  by_cases h1 : a.p = b.p
  · rw [if_neg (by simp [h1])]
    by_cases h2 : a.l = b.l
    · rw [if_neg (by simp [h2]), if_pos (by omega), if_neg (by omega)]
    · rw [if_pos h2, if_neg (by omega)]
  · rw [if_pos h1, if_neg (by omega)]

theorem cmpS_self (a : PS) : cmpS a a = 0 := by simp [cmpS]

/-- How two are ordered: one of three ways. -/
theorem cmpS_cases (a b : PS) : (LtS a b ∧ cmpS a b = -1) ∨ (a = b ∧ cmpS a b = 0) ∨ (LtS b a ∧ cmpS a b = 1) := by
  rcases LtS.tri a b with h | h | h
  · exact .inl ⟨h, cmpS_lt h⟩
  · exact .inr (.inl ⟨h, by rw [h]; exact cmpS_self b⟩)
  · exact .inr (.inr ⟨h, cmpS_gt h⟩)

theorem cmpS_neg (a b : PS) : cmpS b a = - cmpS a b := by
  rcases cmpS_cases a b with ⟨h, e⟩ | ⟨h, e⟩ | ⟨h, e⟩
  · rw [e, cmpS_gt h]; rfl
  · subst h; rw [cmpS_self]; rfl
  · rw [e, cmpS_lt h]

theorem cmpS_range (a b : PS) : -1 ≤ cmpS a b ∧ cmpS a b ≤ 1 := by
  rcases cmpS_cases a b with ⟨_, e⟩ | ⟨_, e⟩ | ⟨_, e⟩ <;> omega

theorem cmpS_zero {a b : PS} : cmpS a b = 0 ↔ a = b := by
  rcases cmpS_cases a b with ⟨h, e⟩ | ⟨h, e⟩ | ⟨h, e⟩
  · exact ⟨fun k => by omega, fun k => by subst k; exact absurd h (LtS.irrefl _)⟩
  · exact ⟨fun _ => h, fun _ => e⟩
  · exact ⟨fun k => by omega, fun k => by subst k; exact absurd h (LtS.irrefl _)⟩

theorem cmpS_one {a b : PS} : cmpS a b = 1 ↔ LtS b a := by
  rcases cmpS_cases a b with ⟨h, e⟩ | ⟨h, e⟩ | ⟨h, e⟩
  · exact ⟨fun k => by omega, fun k => absurd (h.trans k) (LtS.irrefl _)⟩
  · exact ⟨fun k => by omega, fun k => by subst h; exact absurd k (LtS.irrefl _)⟩
  · exact ⟨fun _ => h, fun _ => e⟩

/-- No later than. -/
def LeS (a b : PS) : Prop := ¬ LtS b a

theorem LeS.refl (a : PS) : LeS a a := LtS.irrefl a
theorem LeS.trans {a b c : PS} (h : LeS a b) (k : LeS b c) : LeS a c := by unfold LeS LtS at *; omega
theorem LtS.le {a b : PS} (h : LtS a b) : LeS a b := by unfold LeS LtS at *; omega
theorem LeS.lt {a b c : PS} (h : LeS a b) (k : LtS b c) : LtS a c := by unfold LeS LtS at *; omega
theorem LeS.anti {a b : PS} (h : LeS a b) (k : LeS b a) : a = b := by
  rcases LtS.tri a b with h' | h' | h'
  · exact absurd h' k
  · exact h'
  · exact absurd h' h

theorem cmpS_le {a b : PS} : cmpS a b ≤ 0 ↔ LeS a b := by
  unfold LeS
  rw [← cmpS_one (a := a) (b := b)]
  have := cmpS_range a b
  omega

theorem cmpS_ge {a b : PS} : 0 ≤ cmpS a b ↔ LeS b a := by
  rw [← cmpS_le, cmpS_neg a b]
  omega

theorem laterS_or (a b : PS) : laterS a b = a ∨ laterS a b = b := by
  unfold laterS
  by_cases h : 0 < cmpS b a
  · rw [if_pos h]; exact .inr rfl
  · rw [if_neg h]; exact .inl rfl

theorem laterS_left (a b : PS) : LeS a (laterS a b) := by
  unfold laterS
  by_cases h : 0 < cmpS b a
  · rw [if_pos h]
    have := cmpS_range b a
    exact (cmpS_one.1 (by omega)).le
  · rw [if_neg h]; exact LeS.refl a

theorem laterS_right (a b : PS) : LeS b (laterS a b) := by
  unfold laterS
  by_cases h : 0 < cmpS b a
  · rw [if_pos h]; exact LeS.refl b
  · rw [if_neg h]
    exact cmpS_le.1 (by omega)

theorem laterS_least {a b c : PS} (h : LeS a c) (k : LeS b c) : LeS (laterS a b) c := by
  rcases laterS_or a b with e | e <;> rw [e] <;> assumption

theorem laterS_comm (a b : PS) : laterS a b = laterS b a :=
  LeS.anti (laterS_least (laterS_right b a) (laterS_left b a)) (laterS_least (laterS_right a b) (laterS_left a b))

theorem okS_iff {s : PS} : okS s = true ↔ 0 ≤ s.p ∧ s.p ≤ 1099511627776 ∧ 0 ≤ s.l ∧ s.l ≤ 65536 ∧ 0 ≤ s.q ∧ s.q ≤ 4 := by
  unfold okS
  rw [decide_eq_true_eq]

theorem mayN_iff {a : PS} {wall peer : Int} : mayN a wall peer = true ↔ okS a = true ∧ (0 ≤ wall ∧ wall ≤ 1099511627776) ∧ (0 ≤ peer ∧ peer ≤ 4) := by
  unfold mayN
  rw [Bool.and_eq_true, Bool.and_eq_true, decide_eq_true_eq, decide_eq_true_eq, and_assoc]

theorem okS_64 {s : PS} (h : okS s = true) : S64 s := by
  have := okS_iff.1 h
  unfold S64 In64
  omega

/-- What Next tells, where it may. -/
theorem nextS_ahead {a : PS} {wall peer : Int} (h : mayN a wall peer = true) (h1 : a.p < wall) : nextS a wall peer = (⟨wall, 0, peer⟩, 0) := by
  unfold nextS
  rw [if_pos h, if_pos h1]

theorem nextS_full {a : PS} {wall peer : Int} (h : mayN a wall peer = true) (h1 : ¬ a.p < wall) (h2 : a.l = 65536) : nextS a wall peer = (noS, 12) := by
  unfold nextS
  rw [if_pos h, if_neg h1, if_pos h2]

theorem nextS_more {a : PS} {wall peer : Int} (h : mayN a wall peer = true) (h1 : ¬ a.p < wall) (h2 : a.l ≠ 65536) : nextS a wall peer = (⟨a.p, a.l + 1, peer⟩, 0) := by
  unfold nextS
  rw [if_pos h, if_neg h1, if_neg h2]

theorem nextS_no {a : PS} {wall peer : Int} (h : mayN a wall peer = false) : nextS a wall peer = (noS, 1) := by
  unfold nextS
  rw [if_neg (by simp [h])]

/-- A next time is right, later, no earlier than the wall, the peer's. -/
theorem nextS_ok {a : PS} {wall peer : Int} (h : mayN a wall peer = true) (h2 : a.l ≠ 65536 ∨ a.p < wall) : ∃ n, nextS a wall peer = (n, 0) ∧ LtS a n ∧ okS n = true ∧ wall ≤ n.p ∧ a.p ≤ n.p ∧ n.q = peer ∧ n.l ≤ a.l + 1 := by
  obtain ⟨ha, hw, hp⟩ := mayN_iff.1 h
  have h3 := okS_iff.1 ha
  by_cases h1 : a.p < wall
  · refine ⟨_, nextS_ahead h h1, ?_, okS_iff.2 ?_, ?_, ?_, rfl, ?_⟩
    · unfold LtS; simp only; omega
    · simp only; omega
    · simp only; omega
    · simp only; omega
    · simp only; omega
  · refine ⟨_, nextS_more h h1 (by omega), ?_, okS_iff.2 ?_, ?_, ?_, rfl, ?_⟩
    · exact .inr ⟨rfl, .inl (by simp only; omega)⟩
    · simp only; omega
    · simp only; omega
    · simp only; omega
    · simp only; omega

end Go.Proofs.Ytncidjlobjgibaa
