/-
  Texts of the proof of BufBack, one behind the other.
-/
import Derived.Test.YtdocpcaoelmlpaaRows
import Derived.Test.YtdocpcaoelmlpaaG22BufBack
import Derived.Test.YtdocpcaoelmlpaaG16BufBack
namespace Go.Proofs.Ytdocpcaoelmlpaa
open Go.RowKit Go.Lib
set_option linter.unusedVariables false

end Go.Proofs.Ytdocpcaoelmlpaa
