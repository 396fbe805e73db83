/-
  What wire's Get, GetInt and GetText answer of any bytes, at any place, as plain functions; and that the Go text answers so.
-/
import Derived.Test.YthmclopndmcojaaRows
import Derived.Test.YthmclopndmcojaaApi
import Derived.WalkKit
namespace Go.Proofs.Ythmclopndmcojaa
open Go.RowKit Go.Lib

/-- Get: the number, the place behind it, the error's number. -/
def rGet (l : List UInt8) (p size : Int) : Int × Int × Int :=
  if size < 1 ∨ 7 < size ∨ p < 0 ∨ (l.length : Int) < p then (0, 0, 1)
  else if (l.length : Int) - p < size then (0, 0, 3)
  else ((num ((l.drop p.toNat).take size.toNat) : Nat), p + size, 0)

/-- What nine bytes are, as GetInt reads them: a sign's byte, and a size. -/
def rSign (x q : Nat) : Option Int := if 1 < x ∨ 1152921504606846976 < q ∨ (x = 1 ∧ q = 0) then none else some (if x = 1 then -(q : Int) else q)

def rGetInt (l : List UInt8) (p : Int) : Int × Int × Int :=
  if p < 0 ∨ (l.length : Int) < p then (0, 0, 1)
  else if (l.length : Int) - p < 9 then (0, 0, 3)
  else match rSign (l[p.toNat]?.getD 0).toNat (num ((l.drop (p.toNat + 1)).take 8)) with
    | none => (0, 0, 3)
    | some v => (v, p + 9, 0)

def rGetText (l : List UInt8) (p : Int) : List UInt8 × Int × Int :=
  if p < 0 ∨ (l.length : Int) < p then ([], 0, 1)
  else if p = (l.length : Int) then ([], 0, 3)
  else if 24 < (l[p.toNat]?.getD 0).toNat ∨ l.length - (p.toNat + 1) < (l[p.toNat]?.getD 0).toNat then ([], 0, 3)
  else ((l.drop (p.toNat + 1)).take (l[p.toNat]?.getD 0).toNat, p + 1 + ((l[p.toNat]?.getD 0).toNat : Int), 0)

theorem drop_at {l : List UInt8} {p : Nat} (h : p < l.length) : l.drop p = (l[p]?.getD 0) :: l.drop (p + 1) := by
  rw [List.drop_eq_getElem_cons h]
  simp [List.getElem?_eq_getElem h]

theorem get_any (a : Option Addr) (len cap : Nat) (p size : Int) (l : List UInt8) (w : World) (hlen : l.length = len) (hl : len ≤ 1048576) (hcap : len ≤ cap) (hr : Rd w a l) :
    Calls Try.prog 43 #[.slice a len cap, .int .i64 p, .int .i64 size] w fun e w' => e = .returned (.tuple #[.int .i64 (rGet l p size).1, .int .i64 (rGet l p size).2.1, .int .i64 (rGet l p size).2.2]) ∧ w' = w := by
  by_cases h1 : size < 1 ∨ 7 < size
  · have e : rGet l p size = (0, 0, 1) := by unfold rGet; rw [if_pos (by omega)]
    rw [e]; exact get_size a len cap p size w h1
  by_cases h2 : p < 0 ∨ (len : Int) < p
  · have e : rGet l p size = (0, 0, 1) := by unfold rGet; rw [if_pos (by omega)]
    rw [e]; exact get_place a len cap p size w hl (by omega) (by omega) h2
  by_cases h3 : (len : Int) - p < size
  · have e : rGet l p size = (0, 0, 3) := by unfold rGet; rw [if_neg (by omega), if_pos (by omega)]
    rw [e]; exact get_short a len cap p size w hl (by omega) (by omega) (by omega) (by omega) h3
  obtain ⟨q, rfl⟩ : ∃ q : Nat, p = q := ⟨p.toNat, by omega⟩
  obtain ⟨s, rfl⟩ : ∃ s : Nat, size = s := ⟨size.toNat, by omega⟩
  have e : rGet l q s = (((num ((l.drop q).take s) : Nat) : Int), (q : Int) + s, 0) := by unfold rGet; rw [if_neg (by omega), if_neg (by omega)]; simp
  rw [e]
  exact get_ok a len cap q s l ((l.drop q).take s) ((l.drop q).drop s) w hlen hl hcap (by omega) (by omega) (List.take_append_drop s (l.drop q)).symm (by simp; omega) hr

theorem getInt_any (a : Option Addr) (len cap : Nat) (p : Int) (l : List UInt8) (w : World) (hlen : l.length = len) (hl : len ≤ 1048576) (hcap : len ≤ cap) (hr : Rd w a l) :
    Calls Try.prog 59 #[.slice a len cap, .int .i64 p] w fun e w' => e = .returned (.tuple #[.int .i64 (rGetInt l p).1, .int .i64 (rGetInt l p).2.1, .int .i64 (rGetInt l p).2.2]) ∧ w' = w := by
  by_cases h2 : p < 0 ∨ (len : Int) < p
  · have e : rGetInt l p = (0, 0, 1) := by unfold rGetInt; rw [if_pos (by omega)]
    rw [e]; exact getInt_place a len cap p w hl h2
  by_cases h3 : (len : Int) - p < 9
  · have e : rGetInt l p = (0, 0, 3) := by unfold rGetInt; rw [if_neg (by omega), if_pos (by omega)]
    rw [e]; exact getInt_short a len cap p w hl (by omega) (by omega) h3
  obtain ⟨q, rfl⟩ : ∃ q : Nat, p = q := ⟨p.toNat, by omega⟩
  have e : rGetInt l q = match rSign (l[q]?.getD 0).toNat (num ((l.drop (q + 1)).take 8)) with
    | none => (0, 0, 3)
    | some v => (v, (q : Int) + 9, 0) := by unfold rGetInt; rw [if_neg (by omega), if_neg (by omega)]; simp
  rw [e]
  have hd : l.drop q = (l[q]?.getD 0) :: ((l.drop (q + 1)).take 8 ++ (l.drop (q + 1)).drop 8) := by rw [List.take_append_drop]; exact drop_at (by omega)
  have ht : ((l.drop (q + 1)).take 8).length = 8 := by simp; omega
  generalize (l.drop (q + 1)).take 8 = t at *
  generalize (l.drop (q + 1)).drop 8 = r at *
  generalize l[q]?.getD 0 = x at *
  by_cases c1 : 1 < x.toNat
  · have : rSign x.toNat (num t) = none := by unfold rSign; rw [if_pos (by omega)]
    rw [this]; exact getInt_sign a len cap q l t r x w hlen hl hcap hd ht c1 hr
  by_cases c2 : 1152921504606846976 < num t
  · have : rSign x.toNat (num t) = none := by unfold rSign; rw [if_pos (by omega)]
    rw [this]; exact getInt_over a len cap q l t r x w hlen hl hcap hd ht c2 hr
  by_cases c3 : x.toNat = 1
  · by_cases c4 : num t = 0
    · have : rSign x.toNat (num t) = none := by unfold rSign; rw [if_pos (by omega)]
      rw [this]; exact getInt_nought a len cap q l t r x w hlen hl hcap hd ht c3 c4 hr
    · have : rSign x.toNat (num t) = some (-((num t : Nat) : Int)) := by unfold rSign; rw [if_neg (by omega), if_pos c3]
      rw [this]; exact getInt_neg a len cap q l t r x w hlen hl hcap hd ht c3 (by omega) (by omega) hr
  · have : rSign x.toNat (num t) = some ((num t : Nat) : Int) := by unfold rSign; rw [if_neg (by omega), if_neg c3]
    rw [this]; exact getInt_pos a len cap q l t r x w hlen hl hcap hd ht (by omega) (by omega) hr

theorem getText_any (a : Option Addr) (len cap : Nat) (p : Int) (l : List UInt8) (w : World) (hlen : l.length = len) (hl : len ≤ 1048576) (hcap : len ≤ cap) (hr : Rd w a l) :
    Calls Try.prog 60 #[.slice a len cap, .int .i64 p] w fun e w' => e = .returned (.tuple #[.string ⟨(rGetText l p).1.toArray⟩, .int .i64 (rGetText l p).2.1, .int .i64 (rGetText l p).2.2]) ∧ Below w.heap.size w w' := by
  by_cases h2 : p < 0 ∨ (len : Int) < p
  · have e : rGetText l p = ([], 0, 1) := by unfold rGetText; rw [if_pos (by omega)]
    rw [e]
    refine (getText_place a len cap p w hl h2).mono ?_
    rintro e w' ⟨rfl, rfl⟩
    exact ⟨rfl, Below.refl _ _⟩
  by_cases h3 : p = (len : Int)
  · subst h3
    have e : rGetText l len = ([], 0, 3) := by unfold rGetText; rw [if_neg (by omega), if_pos (by omega)]
    rw [e]
    refine (getText_end a len cap w hl).mono ?_
    rintro e w' ⟨rfl, rfl⟩
    exact ⟨rfl, Below.refl _ _⟩
  obtain ⟨q, rfl⟩ : ∃ q : Nat, p = q := ⟨p.toNat, by omega⟩
  have e : rGetText l q = if 24 < (l[q]?.getD 0).toNat ∨ l.length - (q + 1) < (l[q]?.getD 0).toNat then ([], 0, 3)
      else ((l.drop (q + 1)).take (l[q]?.getD 0).toNat, (q : Int) + 1 + ((l[q]?.getD 0).toNat : Int), 0) := by
    unfold rGetText; rw [if_neg (by omega), if_neg (by omega)]; simp
  rw [e]
  have hd : l.drop q = (l[q]?.getD 0) :: l.drop (q + 1) := drop_at (by omega)
  have hlr : (l.drop (q + 1)).length = l.length - (q + 1) := by simp
  generalize l[q]?.getD 0 = x at *
  by_cases c1 : 24 < x.toNat
  · rw [if_pos (Or.inl c1)]
    exact getText_long a len cap q l (l.drop (q + 1)) x w hlen hl hcap hd c1 hr
  by_cases c2 : l.length - (q + 1) < x.toNat
  · rw [if_pos (Or.inr c2)]
    exact getText_short a len cap q l (l.drop (q + 1)) x w hlen hl hcap hd (by omega) (by omega) hr
  rw [if_neg (by omega)]
  exact getText_ok a len cap q l ((l.drop (q + 1)).take x.toNat) ((l.drop (q + 1)).drop x.toNat) x w hlen hl hcap (by rw [List.take_append_drop]; exact hd) (by rw [List.length_take]; omega) (by omega) hr

end Go.Proofs.Ythmclopndmcojaa
