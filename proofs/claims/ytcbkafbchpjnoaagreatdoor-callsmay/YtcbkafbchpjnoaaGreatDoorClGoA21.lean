/-
  Every program of calls of kinds 1 and 2 that begins with 2, 1 may be run, by its ops: reckoned. Written by mkclgo.py.
-/
import Derived.Test.YtcbkafbchpjnoaaGreatDoorClCong
namespace Go.Proofs.YtcbkafbchpjnoaaGreatDoor
open Go.RowKit
set_option maxRecDepth 100000
theorem good_1_2111 : goodAll 1 2 5 (stepC 1 0 (stepC 1 0 (stepC 1 0 (stepC 1 0 [] ⟨2, 0, 0⟩) ⟨1, 0, 0⟩) ⟨1, 0, 0⟩) ⟨1, 0, 0⟩) = true := by decide +kernel
theorem good_1_2112 : goodAll 1 2 5 (stepC 1 0 (stepC 1 0 (stepC 1 0 (stepC 1 0 [] ⟨2, 0, 0⟩) ⟨1, 0, 0⟩) ⟨1, 0, 0⟩) ⟨2, 0, 0⟩) = true := by decide +kernel
theorem good_1_211 : goodAll 1 2 6 (stepC 1 0 (stepC 1 0 (stepC 1 0 [] ⟨2, 0, 0⟩) ⟨1, 0, 0⟩) ⟨1, 0, 0⟩) = true := good_split (by decide +kernel) good_1_2111 good_1_2112
theorem good_1_2121 : goodAll 1 2 5 (stepC 1 0 (stepC 1 0 (stepC 1 0 (stepC 1 0 [] ⟨2, 0, 0⟩) ⟨1, 0, 0⟩) ⟨2, 0, 0⟩) ⟨1, 0, 0⟩) = true := by decide +kernel
theorem good_1_2122 : goodAll 1 2 5 (stepC 1 0 (stepC 1 0 (stepC 1 0 (stepC 1 0 [] ⟨2, 0, 0⟩) ⟨1, 0, 0⟩) ⟨2, 0, 0⟩) ⟨2, 0, 0⟩) = true := by decide +kernel
theorem good_1_212 : goodAll 1 2 6 (stepC 1 0 (stepC 1 0 (stepC 1 0 [] ⟨2, 0, 0⟩) ⟨1, 0, 0⟩) ⟨2, 0, 0⟩) = true := good_split (by decide +kernel) good_1_2121 good_1_2122
theorem good_1_21 : goodAll 1 2 7 (stepC 1 0 (stepC 1 0 [] ⟨2, 0, 0⟩) ⟨1, 0, 0⟩) = true := good_split (by decide +kernel) good_1_211 good_1_212
end Go.Proofs.YtcbkafbchpjnoaaGreatDoor
