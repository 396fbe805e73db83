/-
  Texts of the proof of BufFull, one behind the other.
-/
import Derived.Test.YtdocpcaoelmlpaaRows
import Derived.Test.YtdocpcaoelmlpaaG22BufFull
import Derived.Test.YtdocpcaoelmlpaaG16BufFull
namespace Go.Proofs.Ytdocpcaoelmlpaa
open Go.RowKit Go.Lib
set_option linter.unusedVariables false

end Go.Proofs.Ytdocpcaoelmlpaa
