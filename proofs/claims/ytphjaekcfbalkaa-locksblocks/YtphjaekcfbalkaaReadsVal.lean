/-
  WHAT READS ASK OF VALUES, BY THEIR CONTRACTS, in a seat that has the texts on package value: those.
-/
import Derived.Test.YtphjaekcfbalkaaTouchBase
import Derived.Test.YtphjaekcfbalkaaValueRefs
namespace Go.Proofs.Ytphjaekcfbalkaa
end Go.Proofs.Ytphjaekcfbalkaa
