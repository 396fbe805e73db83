/-
  Texts of the proof of BufAll, one behind the other.
-/
import Derived.Test.YtjddkodcbpnilaaRows
import Derived.Test.YtjddkodcbpnilaaG22BufAll
import Derived.Test.YtjddkodcbpnilaaG16BufAll
namespace Go.Proofs.Ytjddkodcbpnilaa
open Go.RowKit Go.Lib
set_option linter.unusedVariables false

end Go.Proofs.Ytjddkodcbpnilaa
