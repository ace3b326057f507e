/-
  package verify: through BY ITS CONTRACT.
-/
import Derived.Test.YtlndbligbpfdpaaVfNext
namespace Go.Proofs.Ytlndbligbpfdpaa
set_option linter.unusedVariables false
set_option linter.unusedSimpArgs false
open Go.RowKit
attribute [local go_sem] Oper.semAt_some

end Go.Proofs.Ytlndbligbpfdpaa
