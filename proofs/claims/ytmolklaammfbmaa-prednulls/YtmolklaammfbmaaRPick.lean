/-
  What the document's own Pick and RowBytes do.
-/
import Derived.Test.YtmolklaammfbmaaRows
import Derived.Test.YtmolklaammfbmaaRRef
import Derived.Test.YtmolklaammfbmaaVBytes
namespace Go.Proofs.Ytmolklaammfbmaa
open Go.RowKit Go.Lib
set_option linter.unusedVariables false

/-- Is each a place? -/
def inCols (n : Nat) (cols : List Int) : Bool := cols.all fun c => decide (0 ≤ c ∧ c ≤ (n : Int) - 1)

/-- The values at these places. -/
def pickAt (vs : List PV) (cols : List Int) : List PV := cols.map fun c => vs[c.toNat]?.getD noV

/-- Pick's answer. -/
def pickR (vs : List PV) (cols : List Int) : List PV × Int := if inCols vs.length cols = true then (if 12 < cols.length then ([], 2) else (pickAt vs cols, 0)) else ([], 1)

/-- What a call that makes a row hands back. -/
def GivesR (w w' : World) (e : Ending) (r : List PV × Int) : Prop :=
  ∃ a n cap, e = .returned (.tuple #[.slice a n cap, .int .i64 r.2]) ∧ r.1.length = n ∧ n ≤ 65536 ∧ n ≤ cap ∧ OwnV w' w.heap.size (.slice a n cap) r.1 ∧ RdV w' a r.1 ∧ (a = none → r.1 = [] ∧ cap = 0) ∧ Below w.heap.size w w'

theorem GivesR.of_no {w w' : World} {e : Ending} {k : Int} (h : e = .returned (.tuple #[.slice none 0 0, .int .i64 k]) ∧ w' = w) : GivesR w w' e ([], k) := by
  obtain ⟨he, rfl⟩ := h
  exact ⟨none, 0, 0, he, rfl, by omega, Nat.le_refl _, OwnV.nought _ _, RdV.nil _ _, fun _ => ⟨rfl, rfl⟩, Below.refl _ _⟩

theorem rdV_at (w : World) (g : Nat) (hg : w.heap.size = g) (k i : Int) (s : ByteArray) : RdV (w.alloc (.cells #[.int .i64 k, .int .i64 i, .string s] 23)) (some ⟨g, 0, none⟩) [⟨k, i, s⟩] := by
  have B := Box.made (w := w) (g := g) (k := k) (i := i) (s := s) hg
  obtain ⟨c0, c1, c2, _⟩ := B.cells
  refine fun _ => ⟨g, 0, rfl, fun j hj => ?_⟩
  obtain rfl : j = 0 := by simp at hj; omega
  exact ⟨by simpa using c0, by simpa using c1, by simpa using c2⟩

/-- append(out, v): out the call's own. -/
theorem run_append_val {w : World} {B n : Nat} {v : Value} {xs : List PV} (g : Nat) (hg : w.heap.size = g) (k i : Int) (s : ByteArray) (hown : OwnV w B v xs) (hn : xs.length = n) (h1 : n ≤ 65536) (hB : B ≤ w.heap.size) :
    ∃ a' cap' w', (Builtin.append_ #[27, 27] 27 #[v, .slice (some ⟨g, 0, none⟩) 1 1]).run Try.prog (w.alloc (.cells #[.int .i64 k, .int .i64 i, .string s] 23)) = .ok (.slice a' (n + 1) cap') w' ∧ n + 1 ≤ cap' ∧ OwnV w' B (.slice a' (n + 1) cap') (xs ++ [⟨k, i, s⟩]) ∧ RdV w' a' (xs ++ [⟨k, i, s⟩]) ∧ (a' = none → xs ++ [⟨k, i, s⟩] = [] ∧ cap' = 0) ∧ Below B w w' := by
  obtain ⟨a', cap', w', hrun, hc, ho, hrd, hnl, _, hb⟩ := run_append_vals (ty := 27) (cap := 1) (hown.later (alloc_below w (.cells #[.int .i64 k, .int .i64 i, .string s] 23))) hn (m := 1) rfl (rdV_at w g hg k i s) (fun h => by cases h) h1 (by omega) (Nat.le_trans hB (by simp))
  exact ⟨a', cap', w', hrun, hc, ho, hrd, hnl, ((alloc_below w _).mono hB).trans hb⟩

end Go.Proofs.Ytmolklaammfbmaa
