/-
  WHAT READS ASK OF VALUES, BY THEIR CONTRACTS, in a seat that has the texts on package value: those.
-/
import Derived.Test.YtmncidlfikgmkaaAllA
import Derived.Test.YtmncidlfikgmkaaValueRefs
namespace Go.Proofs.Ytmncidlfikgmkaa
end Go.Proofs.Ytmncidlfikgmkaa
