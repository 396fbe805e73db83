/-
  What the calls of package value answer, as the laws' walks ask it; and what raddlelaw03's Long answers.
-/
import Derived.Test.YtljikgjgcpheaaaRows
import Derived.Test.YtljikgjgcpheaaaVReadC
import Derived.Test.YtljikgjgcpheaaaVRef
import Derived.WalkKit
import Derived.WalkSpells
import Derived.WalkLawsBesides
namespace Go.Proofs.Ytljikgjgcpheaaa
open Go.RowKit Go.Lib
set_option linter.unusedVariables false

/-- Check's answer. -/
def chkV (v : PV) : Int := if okV v = true then 0 else 1

/-- Bytes' answer. -/
def putV (v : PV) : List UInt8 × Int := if okV v = true then (bytesV v, 0) else ([], 1)

/-- What a call that makes bytes hands back: bytes that can be read. -/
def GivesB (w w' : World) (e : Ending) (r : List UInt8 × Int) : Prop :=
  ∃ a n cap, e = .returned (.tuple #[.slice a n cap, .int .i64 r.2]) ∧ r.1.length = n ∧ n ≤ 1048576 ∧ n ≤ cap ∧ Rd w' a r.1 ∧ (a = none → r.1 = [] ∧ cap = 0) ∧ Below w.heap.size w w'

/-- One of these texts is too long to be played. -/
def longT (ts : List ByteArray) : Bool := ts.any fun s => decide (300 < s.size)

end Go.Proofs.Ytljikgjgcpheaaa
