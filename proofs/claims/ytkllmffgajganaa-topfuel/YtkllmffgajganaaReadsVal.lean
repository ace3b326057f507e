/-
  WHAT READS ASK OF VALUES, BY THEIR CONTRACTS, in a seat that has the texts on package value: those.
-/
import Derived.Test.YtkllmffgajganaaAllA
import Derived.Test.YtkllmffgajganaaValueRefs
namespace Go.Proofs.Ytkllmffgajganaa
end Go.Proofs.Ytkllmffgajganaa
