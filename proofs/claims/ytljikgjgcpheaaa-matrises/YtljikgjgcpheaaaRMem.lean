/-
  Rows of values in memory: what a walk is told of a slice of values; a row that append makes.
-/
import Derived.Test.YtljikgjgcpheaaaRows
import Derived.Test.YtljikgjgcpheaaaFrame
import Derived.Test.YtljikgjgcpheaaaGrow
import Derived.Test.YtljikgjgcpheaaaVals
import Derived.Test.YtljikgjgcpheaaaVRefRead
import Derived.WalkKit
import Derived.ProofKit
import Derived.OpenShut
import Derived.Lib.SmallJoins
import Derived.Laws.AppendOwnNone
namespace Go.Proofs.Ytljikgjgcpheaaa
open Go.ChangeShapes Go.WideShapes Go.ChangeAt Go.RowKit Go.Lib
set_option linter.unusedVariables false

/-- A slice's beginning, and the values that are read from there on. -/
def RdV (w : World) (a : Option Addr) (vs : List PV) : Prop :=
  0 < vs.length → ∃ b off, a = some ⟨b, off, none⟩ ∧ ∀ i (hi : i < vs.length), w.cell? ⟨b, off + i * 3, none⟩ = some (.int .i64 vs[i].k) ∧ w.cell? ⟨b, off + i * 3 + 1, none⟩ = some (.int .i64 vs[i].i) ∧ w.cell? ⟨b, off + i * 3 + 2, none⟩ = some (.string vs[i].s)

theorem RdV.later {w w' : World} {a : Option Addr} {vs : List PV} (h : RdV w a vs) (hb : Below w.heap.size w w') : RdV w' a vs := by
  intro h0
  obtain ⟨b, off, e, hc⟩ := h h0
  exact ⟨b, off, e, fun i hi => ⟨cell_later hb (hc i hi).1, cell_later hb (hc i hi).2.1, cell_later hb (hc i hi).2.2⟩⟩

theorem RdV.nil (w : World) (a : Option Addr) : RdV w a [] := fun h => absurd h (by simp)

theorem RdV.take {w : World} {a : Option Addr} {vs : List PV} (h : RdV w a vs) (n : Nat) : RdV w a (vs.take n) := by
  intro h0
  obtain ⟨b, off, e, hc⟩ := h (by simp at h0; omega)
  refine ⟨b, off, e, fun i hi => ?_⟩
  have hi' : i < vs.length := by simp at hi; omega
  have := hc i hi'
  simpa using this

/-- A value's cells. -/
def cellV (v : PV) : List Value := [.int .i64 v.k, .int .i64 v.i, .string v.s]

/-- .. those of several, one behind the other. -/
def cellsV (vs : List PV) : List Value := vs.flatMap cellV

theorem cellsV_length (vs : List PV) : (cellsV vs).length = vs.length * 3 := by
  induction vs with
  | nil => rfl
  | cons v vs ih => simp [cellsV, cellV] at *; omega

theorem cellsV_append (a b : List PV) : cellsV (a ++ b) = cellsV a ++ cellsV b := by simp [cellsV]

theorem cellsV_one (vs : List PV) : ∀ u ∈ cellsV vs, u.oneCell' = true := by
  intro u hu
  simp [cellsV, cellV] at hu
  obtain ⟨v, _, h⟩ := hu
  rcases h with rfl | rfl | rfl <;> rfl

theorem cellsV_at : ∀ (vs : List PV) (i : Nat) (hi : i < vs.length), (cellsV vs)[i * 3]? = some (.int .i64 vs[i].k) ∧ (cellsV vs)[i * 3 + 1]? = some (.int .i64 vs[i].i) ∧ (cellsV vs)[i * 3 + 2]? = some (.string vs[i].s)
  | [], i, hi => absurd hi (by simp)
  | v :: vs, 0, hi => by simp [cellsV, cellV]
  | v :: vs, i + 1, hi => by
    have := cellsV_at vs i (by simpa using hi)
    have e1 : (i + 1) * 3 = i * 3 + 3 := by omega
    have e2 : (i + 1) * 3 + 1 = i * 3 + 1 + 3 := by omega
    have e3 : (i + 1) * 3 + 2 = i * 3 + 2 + 3 := by omega
    have ec : cellsV (v :: vs) = [.int .i64 v.k, .int .i64 v.i, .string v.s] ++ cellsV vs := by simp [cellsV, cellV]
    rw [ec, e3, e2, e1]
    simpa using this

/-- Each cell of a row of values is one of a value's three. -/
theorem cellsV_get {vs : List PV} {j : Nat} {u : Value} (h : (cellsV vs)[j]? = some u) : ∃ i, i < vs.length ∧ (j = i * 3 ∨ j = i * 3 + 1 ∨ j = i * 3 + 2) := by
  have hj : j < (cellsV vs).length := (List.getElem?_eq_some_iff.1 h).1
  rw [cellsV_length] at hj
  exact ⟨j / 3, by omega, by omega⟩

theorem add_plain3 (b off i : Nat) : (⟨b, off, none⟩ : Addr).add i = ⟨b, off + i, none⟩ := by unfold Addr.add; split <;> simp_all

theorem RdV.src {w : World} {a : Option Addr} {vs : List PV} (h : RdV w a vs) (h0 : 0 < vs.length) : ∃ ad, a = some ad ∧ ∀ j u, (cellsV vs)[j]? = some u → w.cell? (ad.add j) = some u := by
  obtain ⟨b, off, e, hc⟩ := h h0
  refine ⟨_, e, fun j u hu => ?_⟩
  rw [add_plain3]
  obtain ⟨i, hi, hj⟩ := cellsV_get hu
  obtain ⟨c0, c1, c2⟩ := hc i hi
  obtain ⟨d0, d1, d2⟩ := cellsV_at vs i hi
  rcases hj with rfl | rfl | rfl
  · rw [d0] at hu; cases hu; exact c0
  · rw [d1] at hu; cases hu; rw [← Nat.add_assoc]; exact c1
  · rw [d2] at hu; cases hu; rw [← Nat.add_assoc]; exact c2

theorem RdV.of_src {w : World} {b off : Nat} {vs : List PV} (h : ∀ j u, (cellsV vs)[j]? = some u → w.cell? ⟨b, off + j, none⟩ = some u) : RdV w (some ⟨b, off, none⟩) vs := fun _ =>
  ⟨b, off, rfl, fun i hi => by
    obtain ⟨d0, d1, d2⟩ := cellsV_at vs i hi
    exact ⟨h _ _ d0, by rw [Nat.add_assoc]; exact h _ _ d1, by rw [Nat.add_assoc]; exact h _ _ d2⟩⟩

end Go.Proofs.Ytljikgjgcpheaaa
