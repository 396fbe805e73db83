/-
  Texts of the proof of BufAll, one behind the other.
-/
import Derived.Test.YtjddkodcbpnilaaRows
import Derived.Test.YtjddkodcbpnilaaG16BufAll
import Derived.Test.YtjddkodcbpnilaaG20BufAll
import Derived.Test.YtjddkodcbpnilaaG25BufAll
namespace Go.Proofs.Ytjddkodcbpnilaa
open Go.RowKit Go.Lib
set_option linter.unusedVariables false

/-- Is it a type? -/
def typeF (t : Int) : Bool := decide (2 ≤ t ∧ t ≤ 4)

def widthF (v : List Int) : Bool := decide (1 ≤ v.length ∧ v.length ≤ 4)

/-- op.Forms' answer. -/
def formsF (L : List (List Int)) : Int := if L.length < 1 ∨ 3 < L.length then 2 else if L.all widthF = true then (if L.all (fun v => v.all typeF) = true then 0 else 10) else 2

/-- op.Key's. -/
def keyF (s : ByteArray) : Bool := decide (1 ≤ s.size ∧ s.size ≤ 12)

theorem allP_take {α : Type} {P : α → Bool} {L : List α} {k : Nat} (hk : k < L.length) (h : (L.take k).all P = true) : (L.take (k + 1)).all P = P L[k] := by
  rw [List.take_succ_eq_append_getElem hk, List.all_append, h]
  simp

theorem allP_no {α : Type} {P : α → Bool} {L : List α} {k : Nat} (hk : k < L.length) (h : P L[k] = false) : L.all P = false := by
  rw [List.all_eq_false]
  exact ⟨_, List.getElem_mem hk, by simpa using h⟩

end Go.Proofs.Ytjddkodcbpnilaa
