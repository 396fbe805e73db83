/-
  Texts of the proof of BufAll, one behind the other.
-/
import Derived.Test.YtjddkodcbpnilaaRows
import Derived.Test.YtjddkodcbpnilaaG8BufAll
import Derived.Test.YtjddkodcbpnilaaG6BufAll
import Derived.Test.YtjddkodcbpnilaaG1BufAll
import Derived.Test.YtjddkodcbpnilaaG27BufAll
import Derived.Deep.AppendLies
import Derived.WalkKit
import Derived.WalkSpells
import Derived.WalkLawsBesides
namespace Go.Proofs.Ytjddkodcbpnilaa
open Go.RowKit Go.Lib
set_option linter.unusedVariables false

theorem Own.boxed {w : World} {g B i : Nat} {u x : Value} {l : List UInt8} (ho : Own w B u l) (hr : ∀ r, u.ownBlock = some r → r ≠ g) : Own (w.setCell ⟨g, i, none⟩ x) B u l := by
  refine ⟨ho.1, ?_⟩
  rcases ho.2 with h | ⟨r, cap, cur, hv, hg, hh, hc⟩
  · exact .inl h
  · exact .inr ⟨r, cap, cur, hv, hg, (Below.heap_setCell w ⟨g, i, none⟩ x r (hr r (by rw [hv]; rfl))).trans hh, hc⟩

/-- A Writer's pointer. -/
abbrev vW (g : Nat) : Value := .pointer (some ⟨g, 0, none⟩)

end Go.Proofs.Ytjddkodcbpnilaa

namespace Go.Proofs.Ytjddkodcbpnilaa
open Go.RowKit Go.Lib
set_option linter.unusedVariables false

theorem putN_yes {m size : Nat} (h : m < 256 ^ size) : putN (m : Int) size = some (be m size) := by
  unfold putN
  rw [if_pos ⟨by omega, by omega⟩]
  simp

theorem putN_no {n : Int} {size : Nat} (h : ¬ (0 ≤ n ∧ n < ((256 ^ size : Nat) : Int))) : putN n size = none := by
  unfold putN
  rw [if_neg h]

theorem addW_putC (s : List UInt8 × Bool) (n size most : Nat) : addW (if most < n then addW s none else s) (putN (n : Int) size) = addW s (putC n size most) := by
  unfold putC
  by_cases h : most < n
  · rw [if_pos h, if_pos h, addW_bad rfl]
  · rw [if_neg h, if_neg h]

/-- A text's bytes, if it can be written. -/
def putT (t : ByteArray) : Option (List UInt8) := if 24 < t.size then none else some (textBytes t.data.toList)

end Go.Proofs.Ytjddkodcbpnilaa
