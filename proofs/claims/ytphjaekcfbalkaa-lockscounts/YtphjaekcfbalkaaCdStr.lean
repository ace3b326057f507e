/-
  BYTES AS A TEXT: string(b) of a row of bytes.
-/
import Derived.Test.YtphjaekcfbalkaaCdTaken
import Derived.Laws.BytesArg
namespace Go.Proofs.Ytphjaekcfbalkaa
set_option linter.unusedVariables false
set_option linter.unusedSimpArgs false
open Go.RowKit

end Go.Proofs.Ytphjaekcfbalkaa
