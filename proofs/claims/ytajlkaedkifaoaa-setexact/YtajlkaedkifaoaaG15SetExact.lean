/-
  Texts of the proof of SetExact, one behind the other.
-/
import Derived.Test.YtajlkaedkifaoaaRows
import Derived.Test.YtajlkaedkifaoaaG11SetExact
import Derived.Test.YtajlkaedkifaoaaG14SetExact
import Derived.WalkKit
import Derived.WalkSpells
import Derived.WalkLawsBesides
import Derived.Handy
namespace Go.Proofs.Ytajlkaedkifaoaa
open Go.RowKit Go.Lib
set_option linter.unusedVariables false

theorem cell_inside {w : World} {b o : Nat} {v : Value} (h : w.cell? ⟨b, o, none⟩ = some v) : b < w.heap.size := by
  rcases Nat.lt_or_ge b w.heap.size with h1 | h1
  · exact h1
  · unfold World.cell? at h
    simp [Array.getElem?_eq_none h1] at h

theorem set_other {w : World} {a b : Addr} {v x : Value} (h : a ≠ b) (hx : w.cell? b = some x) : (w.setCell a v).cell? b = some x := (World.cell?_setCell_other _ _ _ _ h).trans hx

theorem set_same {w : World} {a : Addr} {v x : Value} (hx : w.cell? a = some x) : (w.setCell a v).cell? a = some v := World.cell?_setCell_same _ _ _ hx

/-- A box that was made earlier holds what it was made of, and may be written. -/
theorem box_at {w w1 : World} {a b c : Value} {t g : Nat} (hg : w.heap.size = g) (hb : Below (w.alloc (.cells #[a, b, c] t)).heap.size (w.alloc (.cells #[a, b, c] t)) w1) :
    (w1.cell? ⟨g, 0, none⟩ = some a ∧ w1.cell? ⟨g, 1, none⟩ = some b ∧ w1.cell? ⟨g, 2, none⟩ = some c) ∧ w1.frozen? ⟨g, 0, none⟩ = false ∧ w1.frozen? ⟨g, 1, none⟩ = false ∧ w1.frozen? ⟨g, 2, none⟩ = false := by
  subst hg
  refine ⟨box3 hb, ?_, ?_, ?_⟩ <;> (rw [hb.frozen (by simp)]; simp)

/-- A value's box. -/
def Box (w : World) (g : Nat) (k i : Int) (s : ByteArray) : Prop := w.heap[g]? = some (.cells #[.int .i64 k, .int .i64 i, .string s] 65 (0, 0))

theorem Box.made {w : World} {g : Nat} {k i : Int} {s : ByteArray} (hg : w.heap.size = g) : Box (w.alloc (.cells #[.int .i64 k, .int .i64 i, .string s] 65)) g k i s := by
  subst hg
  show (w.heap.push _)[w.heap.size]? = _
  simp

theorem Box.lt {w : World} {g : Nat} {k i : Int} {s : ByteArray} (h : Box w g k i s) : g < w.heap.size := by
  unfold Box at h
  rcases Nat.lt_or_ge g w.heap.size with h1 | h1
  · exact h1
  · simp [Array.getElem?_eq_none h1] at h

theorem Box.later {w w' : World} {g : Nat} {k i : Int} {s : ByteArray} (h : Box w g k i s) (hb : Below w.heap.size w w') : Box w' g k i s := (hb.block g h.lt).trans h

theorem Box.cells {w : World} {g : Nat} {k i : Int} {s : ByteArray} (h : Box w g k i s) : w.cell? ⟨g, 0, none⟩ = some (.int .i64 k) ∧ w.cell? ⟨g, 1, none⟩ = some (.int .i64 i) ∧ w.cell? ⟨g, 2, none⟩ = some (.string s) ∧ g < w.heap.size := by
  refine ⟨?_, ?_, ?_, h.lt⟩ <;> (rw [cell_of_row w g _ _ _ _ h]; rfl)

end Go.Proofs.Ytajlkaedkifaoaa
