/-
  WHAT READS ASK OF VALUES, BY THEIR CONTRACTS, in a seat that has the texts on package value: those.
-/
import Derived.Test.YtinhdpiecifmhaaAllA
import Derived.Test.YtinhdpiecifmhaaValueRefs2
namespace Go.Proofs.Ytinhdpiecifmhaa
end Go.Proofs.Ytinhdpiecifmhaa
