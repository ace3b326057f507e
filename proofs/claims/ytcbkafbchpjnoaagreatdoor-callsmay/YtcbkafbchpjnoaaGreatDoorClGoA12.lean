/-
  Every program of calls of kinds 1 and 2 that begins with 1, 2 may be run, by its ops: reckoned. Written by mkclgo.py.
-/
import Derived.Test.YtcbkafbchpjnoaaGreatDoorClCong
namespace Go.Proofs.YtcbkafbchpjnoaaGreatDoor
open Go.RowKit
set_option maxRecDepth 100000
theorem good_1_1211 : goodAll 1 2 5 (stepC 1 0 (stepC 1 0 (stepC 1 0 (stepC 1 0 [] ⟨1, 0, 0⟩) ⟨2, 0, 0⟩) ⟨1, 0, 0⟩) ⟨1, 0, 0⟩) = true := by decide +kernel
theorem good_1_1212 : goodAll 1 2 5 (stepC 1 0 (stepC 1 0 (stepC 1 0 (stepC 1 0 [] ⟨1, 0, 0⟩) ⟨2, 0, 0⟩) ⟨1, 0, 0⟩) ⟨2, 0, 0⟩) = true := by decide +kernel
theorem good_1_121 : goodAll 1 2 6 (stepC 1 0 (stepC 1 0 (stepC 1 0 [] ⟨1, 0, 0⟩) ⟨2, 0, 0⟩) ⟨1, 0, 0⟩) = true := good_split (by decide +kernel) good_1_1211 good_1_1212
theorem good_1_1221 : goodAll 1 2 5 (stepC 1 0 (stepC 1 0 (stepC 1 0 (stepC 1 0 [] ⟨1, 0, 0⟩) ⟨2, 0, 0⟩) ⟨2, 0, 0⟩) ⟨1, 0, 0⟩) = true := by decide +kernel
theorem good_1_1222 : goodAll 1 2 5 (stepC 1 0 (stepC 1 0 (stepC 1 0 (stepC 1 0 [] ⟨1, 0, 0⟩) ⟨2, 0, 0⟩) ⟨2, 0, 0⟩) ⟨2, 0, 0⟩) = true := by decide +kernel
theorem good_1_122 : goodAll 1 2 6 (stepC 1 0 (stepC 1 0 (stepC 1 0 [] ⟨1, 0, 0⟩) ⟨2, 0, 0⟩) ⟨2, 0, 0⟩) = true := good_split (by decide +kernel) good_1_1221 good_1_1222
theorem good_1_12 : goodAll 1 2 7 (stepC 1 0 (stepC 1 0 [] ⟨1, 0, 0⟩) ⟨2, 0, 0⟩) = true := good_split (by decide +kernel) good_1_121 good_1_122
end Go.Proofs.YtcbkafbchpjnoaaGreatDoor
