/-
  Every program of calls of kinds 3 and 4 that begins with 3, 4 may be run, by its ops: reckoned. Written by mkclgo.py.
-/
import Derived.Test.YtcbkafbchpjnoaaGreatDoorClCong
namespace Go.Proofs.YtcbkafbchpjnoaaGreatDoor
open Go.RowKit
set_option maxRecDepth 100000
theorem good_3_1211 : goodAll 3 4 5 (stepC 1 0 (stepC 1 0 (stepC 1 0 (stepC 1 0 [] ⟨3, 0, 0⟩) ⟨4, 0, 0⟩) ⟨3, 0, 0⟩) ⟨3, 0, 0⟩) = true := by decide +kernel
theorem good_3_1212 : goodAll 3 4 5 (stepC 1 0 (stepC 1 0 (stepC 1 0 (stepC 1 0 [] ⟨3, 0, 0⟩) ⟨4, 0, 0⟩) ⟨3, 0, 0⟩) ⟨4, 0, 0⟩) = true := by decide +kernel
theorem good_3_121 : goodAll 3 4 6 (stepC 1 0 (stepC 1 0 (stepC 1 0 [] ⟨3, 0, 0⟩) ⟨4, 0, 0⟩) ⟨3, 0, 0⟩) = true := good_split (by decide +kernel) good_3_1211 good_3_1212
theorem good_3_1221 : goodAll 3 4 5 (stepC 1 0 (stepC 1 0 (stepC 1 0 (stepC 1 0 [] ⟨3, 0, 0⟩) ⟨4, 0, 0⟩) ⟨4, 0, 0⟩) ⟨3, 0, 0⟩) = true := by decide +kernel
theorem good_3_1222 : goodAll 3 4 5 (stepC 1 0 (stepC 1 0 (stepC 1 0 (stepC 1 0 [] ⟨3, 0, 0⟩) ⟨4, 0, 0⟩) ⟨4, 0, 0⟩) ⟨4, 0, 0⟩) = true := by decide +kernel
theorem good_3_122 : goodAll 3 4 6 (stepC 1 0 (stepC 1 0 (stepC 1 0 [] ⟨3, 0, 0⟩) ⟨4, 0, 0⟩) ⟨4, 0, 0⟩) = true := good_split (by decide +kernel) good_3_1221 good_3_1222
theorem good_3_12 : goodAll 3 4 7 (stepC 1 0 (stepC 1 0 [] ⟨3, 0, 0⟩) ⟨4, 0, 0⟩) = true := good_split (by decide +kernel) good_3_121 good_3_122
end Go.Proofs.YtcbkafbchpjnoaaGreatDoor
