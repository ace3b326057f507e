/-
  Every program of calls of kinds 3 and 4 that begins with 4, 4 may be run, by its ops: reckoned. Written by mkclgo.py.
-/
import Derived.Test.YtcbkafbchpjnoaaGreatDoorClCong
namespace Go.Proofs.YtcbkafbchpjnoaaGreatDoor
open Go.RowKit
set_option maxRecDepth 100000
theorem good_3_2211 : goodAll 3 4 5 (stepC 1 0 (stepC 1 0 (stepC 1 0 (stepC 1 0 [] ⟨4, 0, 0⟩) ⟨4, 0, 0⟩) ⟨3, 0, 0⟩) ⟨3, 0, 0⟩) = true := by decide +kernel
theorem good_3_2212 : goodAll 3 4 5 (stepC 1 0 (stepC 1 0 (stepC 1 0 (stepC 1 0 [] ⟨4, 0, 0⟩) ⟨4, 0, 0⟩) ⟨3, 0, 0⟩) ⟨4, 0, 0⟩) = true := by decide +kernel
theorem good_3_221 : goodAll 3 4 6 (stepC 1 0 (stepC 1 0 (stepC 1 0 [] ⟨4, 0, 0⟩) ⟨4, 0, 0⟩) ⟨3, 0, 0⟩) = true := good_split (by decide +kernel) good_3_2211 good_3_2212
theorem good_3_2221 : goodAll 3 4 5 (stepC 1 0 (stepC 1 0 (stepC 1 0 (stepC 1 0 [] ⟨4, 0, 0⟩) ⟨4, 0, 0⟩) ⟨4, 0, 0⟩) ⟨3, 0, 0⟩) = true := by decide +kernel
theorem good_3_2222 : goodAll 3 4 5 (stepC 1 0 (stepC 1 0 (stepC 1 0 (stepC 1 0 [] ⟨4, 0, 0⟩) ⟨4, 0, 0⟩) ⟨4, 0, 0⟩) ⟨4, 0, 0⟩) = true := by decide +kernel
theorem good_3_222 : goodAll 3 4 6 (stepC 1 0 (stepC 1 0 (stepC 1 0 [] ⟨4, 0, 0⟩) ⟨4, 0, 0⟩) ⟨4, 0, 0⟩) = true := good_split (by decide +kernel) good_3_2221 good_3_2222
theorem good_3_22 : goodAll 3 4 7 (stepC 1 0 (stepC 1 0 [] ⟨4, 0, 0⟩) ⟨4, 0, 0⟩) = true := good_split (by decide +kernel) good_3_221 good_3_222
end Go.Proofs.YtcbkafbchpjnoaaGreatDoor
