/-
  Texts of the proof of SetExact, one behind the other.
-/
import Derived.Test.YtajlkaedkifaoaaRows
import Derived.Test.YtajlkaedkifaoaaG9SetExact
import Derived.Test.YtajlkaedkifaoaaG8SetExact
import Derived.Test.YtajlkaedkifaoaaG13SetExact
import Derived.WalkKit
import Derived.WalkSpells
import Derived.WalkLawsBesides
namespace Go.Proofs.Ytajlkaedkifaoaa
open Go.RowKit Go.Lib
set_option linter.unusedVariables false

theorem num_hi (y : UInt8) (t : List UInt8) (ht : t.length = 7) : (127 < y.toNat → 9223372036854775808 ≤ num (y :: t)) ∧ (y.toNat ≤ 127 → num (y :: t) ≤ 9223372036854775807) := by
  have h := num_cons y t
  have hb := num_lt t
  rw [ht] at h hb
  have e : (256 : Nat) ^ 7 = 72057594037927936 := by decide
  rw [e] at h hb
  constructor
  · intro hy; omega
  · intro hy; omega

end Go.Proofs.Ytajlkaedkifaoaa
