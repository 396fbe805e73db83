/-
  What the document's own Value, Type, Fits, Small and Compare answer.
-/
import Derived.Test.YtncidjlobjgibaaRows
import Derived.Test.YtncidjlobjgibaaVals
import Derived.Test.YtncidjlobjgibaaRef
import Derived.WalkKit
import Derived.WalkSpells
import Derived.WalkLawsBesides
namespace Go.Proofs.Ytncidjlobjgibaa
open Go.RowKit Go.Lib
set_option linter.unusedVariables false

theorem okV_none {k i : Int} {s : ByteArray} (h : k ≠ 1 ∧ k ≠ 2 ∧ k ≠ 3 ∧ k ≠ 4) : okV ⟨k, i, s⟩ = false := by simp [okV, h]

set_option maxHeartbeats 400000 in
theorem rsign_any (b : Bool) (w : World) :
    Calls Try.prog 23 #[.bool b] w fun e w' => e = .returned (.int .i64 (sgnB b)) ∧ w' = w := by
  cases b
  all_goals (go_enter Try.func23, Try.ntmps23; go_wp2; go_ret; exact ⟨rfl, rfl⟩)

/-- A box that was made earlier holds what it was made of. -/
theorem box3 {w w1 : World} {a b c : Value} {t : Nat} (hb : Below (w.alloc (.cells #[a, b, c] t)).heap.size (w.alloc (.cells #[a, b, c] t)) w1) :
    w1.cell? ⟨w.heap.size, 0, none⟩ = some a ∧ w1.cell? ⟨w.heap.size, 1, none⟩ = some b ∧ w1.cell? ⟨w.heap.size, 2, none⟩ = some c :=
  ⟨cell_later hb (by simp), cell_later hb (by simp), cell_later hb (by simp)⟩

end Go.Proofs.Ytncidjlobjgibaa
