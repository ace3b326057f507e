/-
  Every program of calls of kinds 7 and 8 may be run, by its ops: reckoned.
-/
import Derived.Test.YtcbkafbchpjnoaaGreatDoorClCong
namespace Go.Proofs.YtcbkafbchpjnoaaGreatDoor
open Go.RowKit
set_option maxRecDepth 100000
theorem good_7 : goodAll 7 8 9 [] = true := by decide +kernel
end Go.Proofs.YtcbkafbchpjnoaaGreatDoor
