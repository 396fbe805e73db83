/-
  What wire's Get, GetInt and GetText answer of any bytes, at any place, as plain functions; and that the Go text answers so.
-/
import Derived.Test.YtmolklaammfbmaaRows
import Derived.Test.YtmolklaammfbmaaApi
import Derived.WalkKit
namespace Go.Proofs.Ytmolklaammfbmaa
open Go.RowKit Go.Lib

/-- Get: the number, the place behind it, the error's number. -/
def rGet (l : List UInt8) (p size : Int) : Int × Int × Int :=
  if size < 1 ∨ 7 < size ∨ p < 0 ∨ (l.length : Int) < p then (0, 0, 1)
  else if (l.length : Int) - p < size then (0, 0, 3)
  else ((num ((l.drop p.toNat).take size.toNat) : Nat), p + size, 0)

/-- What nine bytes are, as GetInt reads them: a sign's byte, and a size. -/
def rSign (x q : Nat) : Option Int := if 1 < x ∨ 1152921504606846976 < q ∨ (x = 1 ∧ q = 0) then none else some (if x = 1 then -(q : Int) else q)

def rGetInt (l : List UInt8) (p : Int) : Int × Int × Int :=
  if p < 0 ∨ (l.length : Int) < p then (0, 0, 1)
  else if (l.length : Int) - p < 9 then (0, 0, 3)
  else match rSign (l[p.toNat]?.getD 0).toNat (num ((l.drop (p.toNat + 1)).take 8)) with
    | none => (0, 0, 3)
    | some v => (v, p + 9, 0)

def rGetText (l : List UInt8) (p : Int) : List UInt8 × Int × Int :=
  if p < 0 ∨ (l.length : Int) < p then ([], 0, 1)
  else if p = (l.length : Int) then ([], 0, 3)
  else if 24 < (l[p.toNat]?.getD 0).toNat ∨ l.length - (p.toNat + 1) < (l[p.toNat]?.getD 0).toNat then ([], 0, 3)
  else ((l.drop (p.toNat + 1)).take (l[p.toNat]?.getD 0).toNat, p + 1 + ((l[p.toNat]?.getD 0).toNat : Int), 0)

theorem drop_at {l : List UInt8} {p : Nat} (h : p < l.length) : l.drop p = (l[p]?.getD 0) :: l.drop (p + 1) := by
  rw [List.drop_eq_getElem_cons h]
  simp [List.getElem?_eq_getElem h]

end Go.Proofs.Ytmolklaammfbmaa
