/-
  Texts of the proof of BufNeeds, one behind the other.
-/
import Derived.Test.YtdocpcaoelmlpaaRows
import Derived.Test.YtdocpcaoelmlpaaG22BufNeeds
import Derived.Test.YtdocpcaoelmlpaaG16BufNeeds
namespace Go.Proofs.Ytdocpcaoelmlpaa
open Go.RowKit Go.Lib
set_option linter.unusedVariables false

end Go.Proofs.Ytdocpcaoelmlpaa
