/-
  WHAT READS ASK OF VALUES, BY THEIR CONTRACTS, in a seat that has the texts on package value: those.
-/
import Derived.Test.YtlndbligbpfdpaaTouchBase
import Derived.Test.YtlndbligbpfdpaaValueRefs
namespace Go.Proofs.Ytlndbligbpfdpaa
end Go.Proofs.Ytlndbligbpfdpaa
