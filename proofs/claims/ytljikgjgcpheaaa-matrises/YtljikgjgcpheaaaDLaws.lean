/-
  What raddlelaw05's wakes answers; DotLess' walk.
-/
import Derived.Test.YtljikgjgcpheaaaRows
import Derived.Test.YtljikgjgcpheaaaDLeast
import Derived.Test.YtljikgjgcpheaaaFrame
namespace Go.Proofs.Ytljikgjgcpheaaa
open Go.RowKit Go.Lib
set_option linter.unusedVariables false

theorem all64_two {x y : Int} (h1 : In64 x) (h2 : In64 y) : All64 [x, y] := by
  intro z hz
  simp at hz
  rcases hz with rfl | rfl
  · exact h1
  · exact h2

theorem mergeW : mergeD [2, 0] [1, 3] = ([2, 3], 0) := by decide

/-- Three dots' boxes stay. -/
theorem keep3D {W w w' : World} {g0 g1 g2 : Nat} {p0 k0 p1 k1 p2 k2 : Int} (hb : Below w.heap.size w w')
    (h : w.cell? ⟨g0, 0, none⟩ = some (.int .i64 p0) ∧ w.cell? ⟨g0, 1, none⟩ = some (.int .i64 k0) ∧ w.cell? ⟨g1, 0, none⟩ = some (.int .i64 p1) ∧ w.cell? ⟨g1, 1, none⟩ = some (.int .i64 k1) ∧ w.cell? ⟨g2, 0, none⟩ = some (.int .i64 p2) ∧ w.cell? ⟨g2, 1, none⟩ = some (.int .i64 k2) ∧ Hid (Below W.heap.size W w)) :
    w'.cell? ⟨g0, 0, none⟩ = some (.int .i64 p0) ∧ w'.cell? ⟨g0, 1, none⟩ = some (.int .i64 k0) ∧ w'.cell? ⟨g1, 0, none⟩ = some (.int .i64 p1) ∧ w'.cell? ⟨g1, 1, none⟩ = some (.int .i64 k1) ∧ w'.cell? ⟨g2, 0, none⟩ = some (.int .i64 p2) ∧ w'.cell? ⟨g2, 1, none⟩ = some (.int .i64 k2) ∧ Hid (Below W.heap.size W w') := by
  obtain ⟨h0, h1, h2, h3, h4, h5, h9⟩ := h
  exact ⟨cell_later hb h0, cell_later hb h1, cell_later hb h2, cell_later hb h3, cell_later hb h4, cell_later hb h5, chain h9.out hb⟩

theorem box2 (w : World) (g : Nat) (hg : w.heap.size = g) (x y : Value) (t : TypeId) : (w.alloc (.cells #[x, y] t)).cell? ⟨g, 0, none⟩ = some x ∧ (w.alloc (.cells #[x, y] t)).cell? ⟨g, 1, none⟩ = some y := by
  subst hg
  constructor
  · rw [cell_of_row (w.alloc (.cells #[x, y] t)) w.heap.size 0 #[x, y] t (0, 0) (by show (w.heap.push _)[w.heap.size]? = _; simp)]; rfl
  · rw [cell_of_row (w.alloc (.cells #[x, y] t)) w.heap.size 1 #[x, y] t (0, 0) (by show (w.heap.push _)[w.heap.size]? = _; simp)]; rfl

theorem lessD_trans {p k p' k' p'' k'' : Int} (h : lessD p k p' k' = true) (h' : lessD p' k' p'' k'' = true) : lessD p k p'' k'' = true := by
  unfold lessD at *
  simp at *
  omega

end Go.Proofs.Ytljikgjgcpheaaa
