/-
  Every program of calls of kinds 3 and 4 that begins with 4, 3 may be run, by its ops: reckoned. Written by mkclgo.py.
-/
import Derived.Test.YtcbkafbchpjnoaaGreatDoorClCong
namespace Go.Proofs.YtcbkafbchpjnoaaGreatDoor
open Go.RowKit
set_option maxRecDepth 100000
theorem good_3_2111 : goodAll 3 4 5 (stepC 1 0 (stepC 1 0 (stepC 1 0 (stepC 1 0 [] ⟨4, 0, 0⟩) ⟨3, 0, 0⟩) ⟨3, 0, 0⟩) ⟨3, 0, 0⟩) = true := by decide +kernel
theorem good_3_2112 : goodAll 3 4 5 (stepC 1 0 (stepC 1 0 (stepC 1 0 (stepC 1 0 [] ⟨4, 0, 0⟩) ⟨3, 0, 0⟩) ⟨3, 0, 0⟩) ⟨4, 0, 0⟩) = true := by decide +kernel
theorem good_3_211 : goodAll 3 4 6 (stepC 1 0 (stepC 1 0 (stepC 1 0 [] ⟨4, 0, 0⟩) ⟨3, 0, 0⟩) ⟨3, 0, 0⟩) = true := good_split (by decide +kernel) good_3_2111 good_3_2112
theorem good_3_2121 : goodAll 3 4 5 (stepC 1 0 (stepC 1 0 (stepC 1 0 (stepC 1 0 [] ⟨4, 0, 0⟩) ⟨3, 0, 0⟩) ⟨4, 0, 0⟩) ⟨3, 0, 0⟩) = true := by decide +kernel
theorem good_3_2122 : goodAll 3 4 5 (stepC 1 0 (stepC 1 0 (stepC 1 0 (stepC 1 0 [] ⟨4, 0, 0⟩) ⟨3, 0, 0⟩) ⟨4, 0, 0⟩) ⟨4, 0, 0⟩) = true := by decide +kernel
theorem good_3_212 : goodAll 3 4 6 (stepC 1 0 (stepC 1 0 (stepC 1 0 [] ⟨4, 0, 0⟩) ⟨3, 0, 0⟩) ⟨4, 0, 0⟩) = true := good_split (by decide +kernel) good_3_2121 good_3_2122
theorem good_3_21 : goodAll 3 4 7 (stepC 1 0 (stepC 1 0 [] ⟨4, 0, 0⟩) ⟨3, 0, 0⟩) = true := good_split (by decide +kernel) good_3_211 good_3_212
end Go.Proofs.YtcbkafbchpjnoaaGreatDoor
