/-
  What raddlelaw04's wakes answers; RowReads' walk.
-/
import Derived.Test.YtmolklaammfbmaaRows
import Derived.Test.YtmolklaammfbmaaRApi
import Derived.Test.YtmolklaammfbmaaKeep
import Derived.Test.YtmolklaammfbmaaGrow
import Derived.Test.YtmolklaammfbmaaFrame
import Derived.Handy
namespace Go.Proofs.Ytmolklaammfbmaa
open Go.RowKit Go.Lib
set_option linter.unusedVariables false

/-- The row of one null. -/
def oneN : List PV := [⟨1, 0, ⟨#[]⟩⟩]

theorem chkN : chkR oneN = 0 := rfl
theorem bytesN : (bytesR oneN).length = 2 := rfl
theorem readN : readR (bytesR oneN) 0 = (oneN, 2, 0) := by
  have := readR_bytes (vs := oneN) (l := bytesR oneN) (r := []) (p := 0) chkN (by simp)
  rw [bytesN] at this
  exact this

end Go.Proofs.Ytmolklaammfbmaa
