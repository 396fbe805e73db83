/-
  Texts of the proof of BufAll, one behind the other.
-/
import Derived.Test.YtjddkodcbpnilaaRows
import Derived.Test.YtjddkodcbpnilaaG4BufAll
import Derived.Test.YtjddkodcbpnilaaG9BufAll
import Derived.WalkKit
import Derived.WalkSpells
import Derived.WalkLawsBesides
namespace Go.Proofs.Ytjddkodcbpnilaa
open Go.RowKit Go.Lib
set_option linter.unusedVariables false

theorem okV_none {k i : Int} {s : ByteArray} (h : k ≠ 1 ∧ k ≠ 2 ∧ k ≠ 3 ∧ k ≠ 4) : okV ⟨k, i, s⟩ = false := by simp [okV, h]

/-- A box that was made earlier holds what it was made of. -/
theorem box3 {w w1 : World} {a b c : Value} {t : Nat} (hb : Below (w.alloc (.cells #[a, b, c] t)).heap.size (w.alloc (.cells #[a, b, c] t)) w1) :
    w1.cell? ⟨w.heap.size, 0, none⟩ = some a ∧ w1.cell? ⟨w.heap.size, 1, none⟩ = some b ∧ w1.cell? ⟨w.heap.size, 2, none⟩ = some c :=
  ⟨cell_later hb (by simp), cell_later hb (by simp), cell_later hb (by simp)⟩

end Go.Proofs.Ytjddkodcbpnilaa
