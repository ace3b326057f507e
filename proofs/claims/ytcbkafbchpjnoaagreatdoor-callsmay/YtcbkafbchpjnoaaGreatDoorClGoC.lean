/-
  Every program of calls of kinds 5 and 6 may be run, by its ops: reckoned.
-/
import Derived.Test.YtcbkafbchpjnoaaGreatDoorClCong
namespace Go.Proofs.YtcbkafbchpjnoaaGreatDoor
open Go.RowKit
set_option maxRecDepth 100000
theorem good_5 : goodAll 5 6 9 [] = true := by decide +kernel
end Go.Proofs.YtcbkafbchpjnoaaGreatDoor
