/-
  What wire's Put, PutInt and PutText do.
-/
import Derived.Test.YtmolklaammfbmaaRows
import Derived.Test.YtmolklaammfbmaaLeaf
import Derived.WalkKit
import Derived.WalkSpells
import Derived.WalkLawsBesides
namespace Go.Proofs.Ytmolklaammfbmaa
open Go.RowKit Go.Lib

theorem wrap_pow (size : Nat) (h1 : 1 ≤ size) (h7 : size ≤ 7) : wrap64 (2 ^ (8 * size)) = ((256 ^ size : Nat) : Int) := by
  have h : size = 1 ∨ size = 2 ∨ size = 3 ∨ size = 4 ∨ size = 5 ∨ size = 6 ∨ size = 7 := by omega
  rcases h with rfl | rfl | rfl | rfl | rfl | rfl | rfl <;> (unfold wrap64; decide)

theorem pow_le56 (size : Nat) (h7 : size ≤ 7) : 256 ^ size ≤ 72057594037927936 := by
  have : 256 ^ size ≤ 256 ^ 7 := Nat.pow_le_pow_right (by omega) h7
  omega

theorem set_front {l : List UInt8} {x : UInt8} {k : Nat} : (l ++ List.replicate (k + 1) 0).set l.length x = (l ++ [x]) ++ List.replicate k 0 := by
  rw [List.set_append_right _ _ (Nat.le_refl _)]
  simp [List.replicate_succ]

theorem Below.set {w w1 : World} {B g i : Nat} {v : Value} (h : Below B w w1) (hg : B ≤ g) : Below B w (w1.setCell ⟨g, i, none⟩ v) := h.setCell hg v

end Go.Proofs.Ytmolklaammfbmaa
