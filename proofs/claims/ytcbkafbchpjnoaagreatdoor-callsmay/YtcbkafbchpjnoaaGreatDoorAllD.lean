/-
  Every program of calls of kinds 1 and 2 may be run, by its ops: reckoned. Written by mkclgo.py.
-/
import Derived.Test.YtcbkafbchpjnoaaGreatDoorClGoA11
import Derived.Test.YtcbkafbchpjnoaaGreatDoorClGoA12
import Derived.Test.YtcbkafbchpjnoaaGreatDoorClGoA21
import Derived.Test.YtcbkafbchpjnoaaGreatDoorClGoA22
import Derived.Test.YtcbkafbchpjnoaaGreatDoorClGoB11
import Derived.Test.YtcbkafbchpjnoaaGreatDoorClGoB12
import Derived.Test.YtcbkafbchpjnoaaGreatDoorClGoB21
import Derived.Test.YtcbkafbchpjnoaaGreatDoorClGoB22
import Derived.Test.YtcbkafbchpjnoaaGreatDoorClGoC
import Derived.Test.YtcbkafbchpjnoaaGreatDoorClGoD
import Derived.Test.YtcbkafbchpjnoaaGreatDoorAllC
namespace Go.Proofs.YtcbkafbchpjnoaaGreatDoor
open Go.RowKit
set_option maxRecDepth 100000
theorem good_1_1 : goodAll 1 2 8 (stepC 1 0 [] ⟨1, 0, 0⟩) = true := good_split (by decide +kernel) good_1_11 good_1_12
theorem good_1_2 : goodAll 1 2 8 (stepC 1 0 [] ⟨2, 0, 0⟩) = true := good_split (by decide +kernel) good_1_21 good_1_22
theorem good_1 : goodAll 1 2 9 [] = true := good_split (by decide +kernel) good_1_1 good_1_2
end Go.Proofs.YtcbkafbchpjnoaaGreatDoor
/-
  Every program of calls of kinds 3 and 4 may be run, by its ops: reckoned. Written by mkclgo.py.
-/
namespace Go.Proofs.YtcbkafbchpjnoaaGreatDoor
open Go.RowKit
set_option maxRecDepth 100000
theorem good_3_1 : goodAll 3 4 8 (stepC 1 0 [] ⟨3, 0, 0⟩) = true := good_split (by decide +kernel) good_3_11 good_3_12
theorem good_3_2 : goodAll 3 4 8 (stepC 1 0 [] ⟨4, 0, 0⟩) = true := good_split (by decide +kernel) good_3_21 good_3_22
theorem good_3 : goodAll 3 4 9 [] = true := good_split (by decide +kernel) good_3_1 good_3_2
end Go.Proofs.YtcbkafbchpjnoaaGreatDoor
/-
  Every program of calls that is right may be run: PLAIN DATA. Written by mkclmay.py.
-/
namespace Go.Proofs.YtcbkafbchpjnoaaGreatDoor
set_option linter.unusedVariables false
set_option linter.unusedSimpArgs false
set_option maxRecDepth 100000
open Go.RowKit

/-- An instruction that may stand where V variables are. -/
def okI (V : Int) (i : InsD) : Prop := rightI i = true ∧ (varV i.op = true → i.arg < V)
theorem z19 : varV 19 = false := by decide
theorem z20 : varV 20 = false := by decide
theorem z21 : varV 21 = false := by decide
theorem z01 : varV 1 = false := by decide
theorem ok_jump {V o : Int} (p : Int) (h : o = 19 ∨ o = 20 ∨ o = 21) (h0 : 0 ≤ p) (h1 : p ≤ 63) : okI V ⟨o, p, 0⟩ := by
  have d0 : decide (0 ≤ p) = true := decide_eq_true h0
  have d1 : decide (p ≤ 63) = true := decide_eq_true h1
  have z : rightB 0 = true := by decide +kernel
  rcases h with rfl | rfl | rfl
  all_goals
    refine ⟨?_, fun hv => by simp [z19, z20, z21] at hv⟩
    unfold rightI
    simp [argP, valP, highP, d0, d1, z]
    try omega
theorem ok_var {V o : Int} (p : Int) (h : o = 4 ∨ o = 5 ∨ o = 6 ∨ o = 7) (h0 : 0 ≤ p) (h1 : p ≤ 11) (h2 : p < V) : okI V ⟨o, p, 0⟩ := by
  have z : rightB 0 = true := by decide +kernel
  rcases h with rfl | rfl | rfl | rfl
  all_goals
    refine ⟨?_, fun _ => h2⟩
    unfold rightI
    simp [argP, valP, highP, z]
    try omega
theorem ok_push {V : Int} (v : Int) (h : rightB v = true) : okI V ⟨1, 0, v⟩ := ⟨by unfold rightI; simp [argP, valP, highP, h], fun hv => by simp [z01] at hv⟩
theorem numV_right : ∀ n : Fin 16, rightB (numV (n.val : Int)) = true := by decide +kernel
theorem ok_num {V : Int} (n : Int) (h : 0 ≤ n ∧ n ≤ 15) : okI V (insP n) := by
  have := numV_right ⟨n.toNat, by omega⟩
  have e : ((n.toNat : Nat) : Int) = n := by omega
  simp only [e] at this
  exact ok_push _ this
theorem ok_plain {V : Int} (o : Int) (h : rightI (insO o 0) = true) (hv : varV o = false) : okI V (insO o 0) := ⟨h, fun q => by rw [show (insO o 0).op = o from rfl, hv] at q; cases q⟩

theorem blk_ok_1 (V n t a u v : Int) (ha : 0 ≤ a ∧ a + 7 ≤ 64) (ht : 0 ≤ t ∧ t ≤ 11) (hV : t < V) (hu : 0 ≤ u ∧ u ≤ 3) : ∀ i ∈ blkC n t a ⟨1, u, v⟩, okI V i := by
  have e : blkC n t a ⟨1, u, v⟩ = [⟨21, 6 + a, 0⟩, insO 4 t, ⟨20, 4 + a, 0⟩, insO 26 0, insP (1 + u), insO 5 t, insO 22 0] := rfl
  rw [e]
  intro i hi
  simp only [List.mem_cons, List.not_mem_nil, or_false] at hi
  rcases hi with rfl | rfl | rfl | rfl | rfl | rfl | rfl
  · exact ok_jump _ (by omega) (by omega) (by omega)
  · exact ok_var _ (by omega) (by omega) (by omega) (by omega)
  · exact ok_jump _ (by omega) (by omega) (by omega)
  · exact ok_plain _ (by decide +kernel) (by decide)
  · exact ok_num _ (by omega)
  · exact ok_var _ (by omega) (by omega) (by omega) (by omega)
  · exact ok_plain _ (by decide +kernel) (by decide)
theorem blk_er_1 (n t a u v : Int) : (blkC n t a ⟨1, u, v⟩).map erI = (blkC 1 0 a ⟨1, 0, 0⟩).map erI := by
  have e : blkC n t a ⟨1, u, v⟩ = [⟨21, 6 + a, 0⟩, insO 4 t, ⟨20, 4 + a, 0⟩, insO 26 0, insP (1 + u), insO 5 t, insO 22 0] := rfl
  have e2 : blkC 1 0 a ⟨1, 0, 0⟩ = [⟨21, 6 + a, 0⟩, insO 4 0, ⟨20, 4 + a, 0⟩, insO 26 0, insP (1 + 0), insO 5 0, insO 22 0] := rfl
  rw [e, e2]
  simp [erI, goI, insO, insP]
theorem blk_ok_2 (V n t a u v : Int) (ha : 0 ≤ a ∧ a + 11 ≤ 64) (ht : 0 ≤ t ∧ t ≤ 11) (hV : t < V) (hu : 0 ≤ u ∧ u ≤ 3) : ∀ i ∈ blkC n t a ⟨2, u, v⟩, okI V i := by
  have e : blkC n t a ⟨2, u, v⟩ = [⟨21, 10 + a, 0⟩, insO 4 t, insP (1 + u), insO 14 0, ⟨20, 9 + a, 0⟩, insP 0, insO 5 t, insP 1, ⟨19, 10 + a, 0⟩, insP 0, insO 22 0] := rfl
  rw [e]
  intro i hi
  simp only [List.mem_cons, List.not_mem_nil, or_false] at hi
  rcases hi with rfl | rfl | rfl | rfl | rfl | rfl | rfl | rfl | rfl | rfl | rfl
  · exact ok_jump _ (by omega) (by omega) (by omega)
  · exact ok_var _ (by omega) (by omega) (by omega) (by omega)
  · exact ok_num _ (by omega)
  · exact ok_plain _ (by decide +kernel) (by decide)
  · exact ok_jump _ (by omega) (by omega) (by omega)
  · exact ok_num _ (by omega)
  · exact ok_var _ (by omega) (by omega) (by omega) (by omega)
  · exact ok_num _ (by omega)
  · exact ok_jump _ (by omega) (by omega) (by omega)
  · exact ok_num _ (by omega)
  · exact ok_plain _ (by decide +kernel) (by decide)
theorem blk_er_2 (n t a u v : Int) : (blkC n t a ⟨2, u, v⟩).map erI = (blkC 1 0 a ⟨2, 0, 0⟩).map erI := by
  have e : blkC n t a ⟨2, u, v⟩ = [⟨21, 10 + a, 0⟩, insO 4 t, insP (1 + u), insO 14 0, ⟨20, 9 + a, 0⟩, insP 0, insO 5 t, insP 1, ⟨19, 10 + a, 0⟩, insP 0, insO 22 0] := rfl
  have e2 : blkC 1 0 a ⟨2, 0, 0⟩ = [⟨21, 10 + a, 0⟩, insO 4 0, insP (1 + 0), insO 14 0, ⟨20, 9 + a, 0⟩, insP 0, insO 5 0, insP 1, ⟨19, 10 + a, 0⟩, insP 0, insO 22 0] := rfl
  rw [e, e2]
  simp [erI, goI, insO, insP]
theorem blk_ok_3 (V n t a u v : Int) (ha : 0 ≤ a ∧ a + 10 ≤ 64) (ht : 0 ≤ t ∧ t ≤ 11) (hV : t < V) : ∀ i ∈ blkC n t a ⟨3, u, v⟩, okI V i := by
  have e : blkC n t a ⟨3, u, v⟩ = [⟨21, 9 + a, 0⟩, insO 4 t, insO 16 0, ⟨20, 8 + a, 0⟩, insP 1, insO 9 0, insO 5 t, ⟨19, 9 + a, 0⟩, insO 26 0, insO 22 0] := rfl
  rw [e]
  intro i hi
  simp only [List.mem_cons, List.not_mem_nil, or_false] at hi
  rcases hi with rfl | rfl | rfl | rfl | rfl | rfl | rfl | rfl | rfl | rfl
  · exact ok_jump _ (by omega) (by omega) (by omega)
  · exact ok_var _ (by omega) (by omega) (by omega) (by omega)
  · exact ok_plain _ (by decide +kernel) (by decide)
  · exact ok_jump _ (by omega) (by omega) (by omega)
  · exact ok_num _ (by omega)
  · exact ok_plain _ (by decide +kernel) (by decide)
  · exact ok_var _ (by omega) (by omega) (by omega) (by omega)
  · exact ok_jump _ (by omega) (by omega) (by omega)
  · exact ok_plain _ (by decide +kernel) (by decide)
  · exact ok_plain _ (by decide +kernel) (by decide)
theorem blk_er_3 (n t a u v : Int) : (blkC n t a ⟨3, u, v⟩).map erI = (blkC 1 0 a ⟨3, 0, 0⟩).map erI := by
  have e : blkC n t a ⟨3, u, v⟩ = [⟨21, 9 + a, 0⟩, insO 4 t, insO 16 0, ⟨20, 8 + a, 0⟩, insP 1, insO 9 0, insO 5 t, ⟨19, 9 + a, 0⟩, insO 26 0, insO 22 0] := rfl
  have e2 : blkC 1 0 a ⟨3, 0, 0⟩ = [⟨21, 9 + a, 0⟩, insO 4 0, insO 16 0, ⟨20, 8 + a, 0⟩, insP 1, insO 9 0, insO 5 0, ⟨19, 9 + a, 0⟩, insO 26 0, insO 22 0] := rfl
  rw [e, e2]
  simp [erI, goI, insO, insP]
theorem blk_ok_4 (V n t a u v : Int) (ha : 0 ≤ a ∧ a + 6 ≤ 64) (ht : 0 ≤ t ∧ t ≤ 11) (hV : t < V) : ∀ i ∈ blkC n t a ⟨4, u, v⟩, okI V i := by
  have e : blkC n t a ⟨4, u, v⟩ = [⟨21, 5 + a, 0⟩, insO 4 t, insP 1, insO 8 0, insO 5 t, insO 22 0] := rfl
  rw [e]
  intro i hi
  simp only [List.mem_cons, List.not_mem_nil, or_false] at hi
  rcases hi with rfl | rfl | rfl | rfl | rfl | rfl
  · exact ok_jump _ (by omega) (by omega) (by omega)
  · exact ok_var _ (by omega) (by omega) (by omega) (by omega)
  · exact ok_num _ (by omega)
  · exact ok_plain _ (by decide +kernel) (by decide)
  · exact ok_var _ (by omega) (by omega) (by omega) (by omega)
  · exact ok_plain _ (by decide +kernel) (by decide)
theorem blk_er_4 (n t a u v : Int) : (blkC n t a ⟨4, u, v⟩).map erI = (blkC 1 0 a ⟨4, 0, 0⟩).map erI := by
  have e : blkC n t a ⟨4, u, v⟩ = [⟨21, 5 + a, 0⟩, insO 4 t, insP 1, insO 8 0, insO 5 t, insO 22 0] := rfl
  have e2 : blkC 1 0 a ⟨4, 0, 0⟩ = [⟨21, 5 + a, 0⟩, insO 4 0, insP 1, insO 8 0, insO 5 0, insO 22 0] := rfl
  rw [e, e2]
  simp [erI, goI, insO, insP]
theorem blk_ok_5 (V n t a u v : Int) (ha : 0 ≤ a ∧ a + 23 ≤ 64) (ht : 0 ≤ t ∧ t + 2 ≤ 11) (hV : t + 2 < V) (hn : 1 ≤ n ∧ n ≤ 4) (hr : rightB v = true) : ∀ i ∈ blkC n t a ⟨5, u, v⟩, okI V i := by
  have e : blkC n t a ⟨5, u, v⟩ = [insO 21 (a + 22), insO 4 t, insP n, insO 14 0, insO 20 (a + 6), insO 26 0, ⟨1, 0, v⟩, insO 4 (t + 1), insO 4 t, insO 8 0, insO 16 0, insP n, insO 13 0, insO 20 (a + 15), insO 19 (a + 17), insP n, insO 9 0, insO 7 (t + 2), insO 4 t, insP 1, insO 8 0, insO 5 t, insO 22 0] := rfl
  rw [e]
  intro i hi
  simp only [List.mem_cons, List.not_mem_nil, or_false] at hi
  rcases hi with rfl | rfl | rfl | rfl | rfl | rfl | rfl | rfl | rfl | rfl | rfl | rfl | rfl | rfl | rfl | rfl | rfl | rfl | rfl | rfl | rfl | rfl | rfl
  · exact ok_jump _ (by omega) (by omega) (by omega)
  · exact ok_var _ (by omega) (by omega) (by omega) (by omega)
  · exact ok_num _ (by omega)
  · exact ok_plain _ (by decide +kernel) (by decide)
  · exact ok_jump _ (by omega) (by omega) (by omega)
  · exact ok_plain _ (by decide +kernel) (by decide)
  · exact ok_push _ hr
  · exact ok_var _ (by omega) (by omega) (by omega) (by omega)
  · exact ok_var _ (by omega) (by omega) (by omega) (by omega)
  · exact ok_plain _ (by decide +kernel) (by decide)
  · exact ok_plain _ (by decide +kernel) (by decide)
  · exact ok_num _ (by omega)
  · exact ok_plain _ (by decide +kernel) (by decide)
  · exact ok_jump _ (by omega) (by omega) (by omega)
  · exact ok_jump _ (by omega) (by omega) (by omega)
  · exact ok_num _ (by omega)
  · exact ok_plain _ (by decide +kernel) (by decide)
  · exact ok_var _ (by omega) (by omega) (by omega) (by omega)
  · exact ok_var _ (by omega) (by omega) (by omega) (by omega)
  · exact ok_num _ (by omega)
  · exact ok_plain _ (by decide +kernel) (by decide)
  · exact ok_var _ (by omega) (by omega) (by omega) (by omega)
  · exact ok_plain _ (by decide +kernel) (by decide)
theorem blk_er_5 (n t a u v : Int) : (blkC n t a ⟨5, u, v⟩).map erI = (blkC 1 0 a ⟨5, 0, 0⟩).map erI := by
  have e : blkC n t a ⟨5, u, v⟩ = [insO 21 (a + 22), insO 4 t, insP n, insO 14 0, insO 20 (a + 6), insO 26 0, ⟨1, 0, v⟩, insO 4 (t + 1), insO 4 t, insO 8 0, insO 16 0, insP n, insO 13 0, insO 20 (a + 15), insO 19 (a + 17), insP n, insO 9 0, insO 7 (t + 2), insO 4 t, insP 1, insO 8 0, insO 5 t, insO 22 0] := rfl
  have e2 : blkC 1 0 a ⟨5, 0, 0⟩ = [insO 21 (a + 22), insO 4 0, insP 1, insO 14 0, insO 20 (a + 6), insO 26 0, ⟨1, 0, 0⟩, insO 4 (0 + 1), insO 4 0, insO 8 0, insO 16 0, insP 1, insO 13 0, insO 20 (a + 15), insO 19 (a + 17), insP 1, insO 9 0, insO 7 (0 + 2), insO 4 0, insP 1, insO 8 0, insO 5 0, insO 22 0] := rfl
  rw [e, e2]
  simp [erI, goI, insO, insP]
theorem blk_ok_6 (V n t a u v : Int) (ha : 0 ≤ a ∧ a + 24 ≤ 64) (ht : 0 ≤ t ∧ t + 2 ≤ 11) (hV : t + 2 < V) (hn : 1 ≤ n ∧ n ≤ 4) : ∀ i ∈ blkC n t a ⟨6, u, v⟩, okI V i := by
  have e : blkC n t a ⟨6, u, v⟩ = [insO 21 (a + 23), insO 4 t, insO 20 (a + 22), insO 4 (t + 1), insO 6 (t + 2), insO 4 t, insP 1, insO 9 0, insO 5 t, insO 4 (t + 1), insP 1, insO 8 0, insO 16 0, insP n, insO 13 0, insO 20 (a + 18), insO 5 (t + 1), insO 19 (a + 23), insO 17 0, insP 0, insO 5 (t + 1), insO 19 (a + 23), insO 26 0, insO 22 0] := rfl
  rw [e]
  intro i hi
  simp only [List.mem_cons, List.not_mem_nil, or_false] at hi
  rcases hi with rfl | rfl | rfl | rfl | rfl | rfl | rfl | rfl | rfl | rfl | rfl | rfl | rfl | rfl | rfl | rfl | rfl | rfl | rfl | rfl | rfl | rfl | rfl | rfl
  · exact ok_jump _ (by omega) (by omega) (by omega)
  · exact ok_var _ (by omega) (by omega) (by omega) (by omega)
  · exact ok_jump _ (by omega) (by omega) (by omega)
  · exact ok_var _ (by omega) (by omega) (by omega) (by omega)
  · exact ok_var _ (by omega) (by omega) (by omega) (by omega)
  · exact ok_var _ (by omega) (by omega) (by omega) (by omega)
  · exact ok_num _ (by omega)
  · exact ok_plain _ (by decide +kernel) (by decide)
  · exact ok_var _ (by omega) (by omega) (by omega) (by omega)
  · exact ok_var _ (by omega) (by omega) (by omega) (by omega)
  · exact ok_num _ (by omega)
  · exact ok_plain _ (by decide +kernel) (by decide)
  · exact ok_plain _ (by decide +kernel) (by decide)
  · exact ok_num _ (by omega)
  · exact ok_plain _ (by decide +kernel) (by decide)
  · exact ok_jump _ (by omega) (by omega) (by omega)
  · exact ok_var _ (by omega) (by omega) (by omega) (by omega)
  · exact ok_jump _ (by omega) (by omega) (by omega)
  · exact ok_plain _ (by decide +kernel) (by decide)
  · exact ok_num _ (by omega)
  · exact ok_var _ (by omega) (by omega) (by omega) (by omega)
  · exact ok_jump _ (by omega) (by omega) (by omega)
  · exact ok_plain _ (by decide +kernel) (by decide)
  · exact ok_plain _ (by decide +kernel) (by decide)
theorem blk_er_6 (n t a u v : Int) : (blkC n t a ⟨6, u, v⟩).map erI = (blkC 1 0 a ⟨6, 0, 0⟩).map erI := by
  have e : blkC n t a ⟨6, u, v⟩ = [insO 21 (a + 23), insO 4 t, insO 20 (a + 22), insO 4 (t + 1), insO 6 (t + 2), insO 4 t, insP 1, insO 9 0, insO 5 t, insO 4 (t + 1), insP 1, insO 8 0, insO 16 0, insP n, insO 13 0, insO 20 (a + 18), insO 5 (t + 1), insO 19 (a + 23), insO 17 0, insP 0, insO 5 (t + 1), insO 19 (a + 23), insO 26 0, insO 22 0] := rfl
  have e2 : blkC 1 0 a ⟨6, 0, 0⟩ = [insO 21 (a + 23), insO 4 0, insO 20 (a + 22), insO 4 (0 + 1), insO 6 (0 + 2), insO 4 0, insP 1, insO 9 0, insO 5 0, insO 4 (0 + 1), insP 1, insO 8 0, insO 16 0, insP 1, insO 13 0, insO 20 (a + 18), insO 5 (0 + 1), insO 19 (a + 23), insO 17 0, insP 0, insO 5 (0 + 1), insO 19 (a + 23), insO 26 0, insO 22 0] := rfl
  rw [e, e2]
  simp [erI, goI, insO, insP]
theorem blk_ok_7 (V n t a u v : Int) (ha : 0 ≤ a ∧ a + 19 ≤ 64) (ht : 0 ≤ t ∧ t + 1 ≤ 11) (hV : t + 1 < V) (hn : 1 ≤ n ∧ n ≤ 4) : ∀ i ∈ blkC n t a ⟨7, u, v⟩, okI V i := by
  have e : blkC n t a ⟨7, u, v⟩ = [insO 21 (a + 18), insO 4 (t + 1), insO 4 t, insP 1, insO 8 0, insO 16 0, insP n, insO 14 0, insO 20 (a + 17), insO 17 0, insP 0, insO 5 t, insO 4 (t + 1), insP 1, insO 8 0, insO 5 (t + 1), insO 19 (a + 18), insO 5 t, insO 22 0] := rfl
  rw [e]
  intro i hi
  simp only [List.mem_cons, List.not_mem_nil, or_false] at hi
  rcases hi with rfl | rfl | rfl | rfl | rfl | rfl | rfl | rfl | rfl | rfl | rfl | rfl | rfl | rfl | rfl | rfl | rfl | rfl | rfl
  · exact ok_jump _ (by omega) (by omega) (by omega)
  · exact ok_var _ (by omega) (by omega) (by omega) (by omega)
  · exact ok_var _ (by omega) (by omega) (by omega) (by omega)
  · exact ok_num _ (by omega)
  · exact ok_plain _ (by decide +kernel) (by decide)
  · exact ok_plain _ (by decide +kernel) (by decide)
  · exact ok_num _ (by omega)
  · exact ok_plain _ (by decide +kernel) (by decide)
  · exact ok_jump _ (by omega) (by omega) (by omega)
  · exact ok_plain _ (by decide +kernel) (by decide)
  · exact ok_num _ (by omega)
  · exact ok_var _ (by omega) (by omega) (by omega) (by omega)
  · exact ok_var _ (by omega) (by omega) (by omega) (by omega)
  · exact ok_num _ (by omega)
  · exact ok_plain _ (by decide +kernel) (by decide)
  · exact ok_var _ (by omega) (by omega) (by omega) (by omega)
  · exact ok_jump _ (by omega) (by omega) (by omega)
  · exact ok_var _ (by omega) (by omega) (by omega) (by omega)
  · exact ok_plain _ (by decide +kernel) (by decide)
theorem blk_er_7 (n t a u v : Int) : (blkC n t a ⟨7, u, v⟩).map erI = (blkC 1 0 a ⟨7, 0, 0⟩).map erI := by
  have e : blkC n t a ⟨7, u, v⟩ = [insO 21 (a + 18), insO 4 (t + 1), insO 4 t, insP 1, insO 8 0, insO 16 0, insP n, insO 14 0, insO 20 (a + 17), insO 17 0, insP 0, insO 5 t, insO 4 (t + 1), insP 1, insO 8 0, insO 5 (t + 1), insO 19 (a + 18), insO 5 t, insO 22 0] := rfl
  have e2 : blkC 1 0 a ⟨7, 0, 0⟩ = [insO 21 (a + 18), insO 4 (0 + 1), insO 4 0, insP 1, insO 8 0, insO 16 0, insP 1, insO 14 0, insO 20 (a + 17), insO 17 0, insP 0, insO 5 0, insO 4 (0 + 1), insP 1, insO 8 0, insO 5 (0 + 1), insO 19 (a + 18), insO 5 0, insO 22 0] := rfl
  rw [e, e2]
  simp [erI, goI, insO, insP]
theorem blk_ok_8 (V n t a u v : Int) (ha : 0 ≤ a ∧ a + 8 ≤ 64) (ht : 0 ≤ t ∧ t + 1 ≤ 11) (hV : t + 1 < V) : ∀ i ∈ blkC n t a ⟨8, u, v⟩, okI V i := by
  have e : blkC n t a ⟨8, u, v⟩ = [insO 21 (a + 7), insO 2 0, insO 4 (t + 1), insO 13 0, insO 20 (a + 6), insO 19 (a + 7), insO 26 0, insO 22 0] := rfl
  rw [e]
  intro i hi
  simp only [List.mem_cons, List.not_mem_nil, or_false] at hi
  rcases hi with rfl | rfl | rfl | rfl | rfl | rfl | rfl | rfl
  · exact ok_jump _ (by omega) (by omega) (by omega)
  · exact ok_plain _ (by decide +kernel) (by decide)
  · exact ok_var _ (by omega) (by omega) (by omega) (by omega)
  · exact ok_plain _ (by decide +kernel) (by decide)
  · exact ok_jump _ (by omega) (by omega) (by omega)
  · exact ok_jump _ (by omega) (by omega) (by omega)
  · exact ok_plain _ (by decide +kernel) (by decide)
  · exact ok_plain _ (by decide +kernel) (by decide)
theorem blk_er_8 (n t a u v : Int) : (blkC n t a ⟨8, u, v⟩).map erI = (blkC 1 0 a ⟨8, 0, 0⟩).map erI := by
  have e : blkC n t a ⟨8, u, v⟩ = [insO 21 (a + 7), insO 2 0, insO 4 (t + 1), insO 13 0, insO 20 (a + 6), insO 19 (a + 7), insO 26 0, insO 22 0] := rfl
  have e2 : blkC 1 0 a ⟨8, 0, 0⟩ = [insO 21 (a + 7), insO 2 0, insO 4 (0 + 1), insO 13 0, insO 20 (a + 6), insO 19 (a + 7), insO 26 0, insO 22 0] := rfl
  rw [e, e2]
  simp [erI, goI, insO, insP]

/-- A call's kind alone. -/
def kdC (c : CaD) : CaD := ⟨c.k, 0, 0⟩
theorem ahd_er (c : CaD) : (ahdC c).map erI = (ahdC (kdC c)).map erI := by
  unfold ahdC kdC
  by_cases h : c.k = 8
  · rw [if_pos h, if_pos h]; rfl
  · rw [if_neg h, if_neg h]
theorem blk_er (n t a : Int) (c : CaD) (hk : 1 ≤ c.k ∧ c.k ≤ 8) : (blkC n t a c).map erI = (blkC 1 0 a (kdC c)).map erI := by
  obtain ⟨k, u, v⟩ := c
  unfold kdC
  simp only at hk ⊢
  have hk' : k = 1 ∨ k = 2 ∨ k = 3 ∨ k = 4 ∨ k = 5 ∨ k = 6 ∨ k = 7 ∨ k = 8 := by omega
  rcases hk' with rfl | rfl | rfl | rfl | rfl | rfl | rfl | rfl
  · exact blk_er_1 n t a u v
  · exact blk_er_2 n t a u v
  · exact blk_er_3 n t a u v
  · exact blk_er_4 n t a u v
  · exact blk_er_5 n t a u v
  · exact blk_er_6 n t a u v
  · exact blk_er_7 n t a u v
  · exact blk_er_8 n t a u v
theorem len_er {l m : List InsD} (h : l.map erI = m.map erI) : l.length = m.length := by have := congrArg List.length h; simpa using this
theorem step_er {n t : Int} {acc acc' : List InsD} (c : CaD) (hk : 1 ≤ c.k ∧ c.k ≤ 8) (h : acc.map erI = acc'.map erI) : (stepC n t acc c).map erI = (stepC 1 0 acc' (kdC c)).map erI := by
  have h1 : (acc ++ ahdC c).map erI = (acc' ++ ahdC (kdC c)).map erI := by rw [List.map_append, List.map_append, h, ahd_er]
  unfold stepC
  rw [len_er h1]
  simp only [List.map_append] at h1 ⊢
  rw [h1, blk_er n t _ c hk]
  rfl
theorem run_er {n t : Int} : ∀ (l : List CaD) (acc acc' : List InsD), (∀ c ∈ l, 1 ≤ c.k ∧ c.k ≤ 8) → acc.map erI = acc'.map erI → (runC n t l acc).map (List.map erI) = (runC 1 0 (l.map kdC) acc').map (List.map erI)
  | [], acc, acc', hl, h => by
    unfold runC
    rw [len_er h]
    by_cases hq : acc'.length + 1 > 64
    · simp only [List.map_nil, if_pos hq, Option.map_none]
    · simp only [List.map_nil, if_neg hq, Option.map_some, List.map_append, h]
  | c :: l, acc, acc', hl, h => by
    have hs := step_er (n := n) (t := t) c (hl c (by simp)) h
    simp only [List.map_cons]
    unfold runC
    rw [len_er hs]
    by_cases hq : (stepC 1 0 acc' (kdC c)).length > 64
    · simp only [if_pos hq, Option.map_none]
    · simp only [if_neg hq]; exact run_er l _ _ (fun c hc => hl c (by simp [hc])) hs

theorem blk_ok {V n t : Int} {c : CaD} (h : CkOk n t c) (a : Int) (ha : 0 ≤ a ∧ a + (lenC c.k : Nat) ≤ 64) (hV : t < V) (hq : c.k = 5 ∨ c.k = 6 → t + 2 < V) (hb : c.k = 7 ∨ c.k = 8 → t + 1 < V) : ∀ i ∈ blkC n t a c, okI V i := by
  obtain ⟨k, u, v⟩ := c
  have hk := h.hk
  have ht := h.ht
  have hu := h.hu
  have h5 := h.hq
  have h7 := h.hb
  have h8 := h.hl
  have hr := h.hr
  simp only at hk hu h5 h7 h8 hr ha hq hb
  have hk' : k = 1 ∨ k = 2 ∨ k = 3 ∨ k = 4 ∨ k = 5 ∨ k = 6 ∨ k = 7 ∨ k = 8 := by omega
  rcases hk' with rfl | rfl | rfl | rfl | rfl | rfl | rfl | rfl
  · exact blk_ok_1 V n t a u v ⟨ha.1, ha.2⟩ (by omega) hV (hu (by omega))
  · exact blk_ok_2 V n t a u v ⟨ha.1, ha.2⟩ (by omega) hV (hu (by omega))
  · exact blk_ok_3 V n t a u v ⟨ha.1, ha.2⟩ (by omega) hV
  · exact blk_ok_4 V n t a u v ⟨ha.1, ha.2⟩ (by omega) hV
  · have hh := h5 (.inl rfl)
    exact blk_ok_5 V n t a u v ⟨ha.1, ha.2⟩ (by omega) (hq (.inl rfl)) (by omega) (hr rfl)
  · have hh := h5 (.inr rfl)
    exact blk_ok_6 V n t a u v ⟨ha.1, ha.2⟩ (by omega) (hq (.inr rfl)) (by omega)
  · have hh := h7 rfl
    exact blk_ok_7 V n t a u v ⟨ha.1, ha.2⟩ (by omega) (hb (.inl rfl)) (by omega)
  · have hh := h8 rfl
    exact blk_ok_8 V n t a u v ⟨ha.1, ha.2⟩ (by omega) (hb (.inr rfl))
theorem ahd_ok {V : Int} {c : CaD} (h : c.k = 8 → rightB c.v = true) : ∀ i ∈ ahdC c, okI V i := by
  intro i hi
  unfold ahdC at hi
  split at hi
  · rename_i h8
    simp only [List.mem_cons, List.not_mem_nil, or_false] at hi
    rcases hi with rfl | rfl
    · exact ok_push _ (h h8)
    · exact ok_plain _ (by decide +kernel) (by decide)
  · simp at hi
theorem ans_ok {V : Int} (k : Int) : ∀ i ∈ ansC k, okI V i := by
  intro i hi
  unfold ansC at hi
  split at hi
  · rw [List.mem_singleton.1 hi]; exact ok_plain _ (by decide +kernel) (by decide)
  · simp only [List.mem_cons, List.not_mem_nil, or_false] at hi
    rcases hi with rfl | rfl
    · exact ok_num _ (by omega)
    · exact ok_plain _ (by decide +kernel) (by decide)
theorem run_ok {V n t : Int} : ∀ (l : List CaD) (acc P : List InsD), (∀ c ∈ l, CkOk n t c ∧ (c.k = 8 → rightB c.v = true) ∧ (c.k = 5 ∨ c.k = 6 → t + 2 < V) ∧ (c.k = 7 ∨ c.k = 8 → t + 1 < V)) → t < V → (∀ i ∈ acc, okI V i) → runC n t l acc = some P → ∀ i ∈ P, okI V i
  | [], acc, P, hl, hV, ha, hP => by
    unfold runC at hP
    split at hP
    · cases hP
    · cases hP
      intro i hi
      rcases List.mem_append.1 hi with hi | hi
      · exact ha i hi
      · rw [List.mem_singleton.1 hi]; exact ok_plain _ (by decide +kernel) (by decide)
  | c :: l, acc, P, hl, hV, ha, hP => by
    unfold runC at hP
    split at hP
    · cases hP
    · rename_i hq
      obtain ⟨h1, h2, h3, h4⟩ := hl c (by simp)
      have hlen := stepC_len n t acc c
      have hA : (acc ++ ahdC c).length = acc.length + (ahdC c).length := List.length_append
      refine run_ok l _ P (fun c hc => hl c (by simp [hc])) hV ?_ hP
      intro i hi
      unfold stepC at hi
      rcases List.mem_append.1 hi with hi | hi
      · rcases List.mem_append.1 hi with hi | hi
        · rcases List.mem_append.1 hi with hi | hi
          · exact ha i hi
          · exact ahd_ok h2 i hi
        · exact blk_ok h1 _ ⟨by omega, by omega⟩ hV h3 h4 i hi
      · exact ans_ok _ i hi

theorem may_plain {k n t u : Int} {l : List CaD} (hw : ∀ c ∈ l, c.Wf) (h : proE k n t u l = 0) : (chkV (proL n t l) (t + tvN k n)).2 = 0 ∧ (proL n t l).length ≤ 64 := by
  unfold proE at h
  cases ho : okO k n with
  | false => rw [ho] at h; simp at h
  | true =>
    cases hA : l.all (areC k u) with
    | false => rw [ho, hA] at h; simp at h
    | true =>
      rw [ho, hA] at h
      simp only [Bool.and_self, if_true] at h
      cases hc : (decide (0 ≤ t) && decide (t ≤ 12 - tvN k n)) && (decide (0 ≤ u) && decide (u ≤ 3)) with
      | false => rw [hc] at h; simp at h
      | true =>
        rw [hc] at h
        simp only [if_true] at h
        rw [Bool.and_eq_true] at hc
        have hck := ck_of ho hA hc.1 hc.2 hw
        have htv := tv_le ho
        have htn : tvN k n = if k = 3 then n + 2 else if k = 4 then 2 else 1 := by unfold tvN; rw [ho]; rfl
        have hways := (okO_is k n).1 ho
        cases hr : runC n t l [] with
        | none => rw [hr] at h; simp at h
        | some P =>
          have hPL : proL n t l = P := by unfold proL; rw [hr]; rfl
          rw [hPL]
          refine ⟨?_, runC_len n t l [] P hr⟩
          have hkinds : ∀ c ∈ l, tksP k c.k = true ∧ fitC c = true := fun c hc => by
            have := List.all_eq_true.1 hA c hc
            unfold areC at this
            simp only [Bool.and_eq_true] at this
            exact ⟨this.1, this.2.2⟩
          have hok := run_ok (V := t + tvN k n) l [] P (fun c hc => by
            obtain ⟨h1, h2⟩ := hkinds c hc
            refine ⟨hck c hc, fun h8 => by unfold fitC at h2; rwa [if_pos (.inr h8)] at h2, fun hq => ?_, fun hq => ?_⟩
            · rw [htn]
              unfold tksP at h1
              rcases hways with ⟨rfl, hz⟩ | ⟨rfl, hz⟩ | ⟨rfl, hz⟩ | ⟨rfl, hz⟩
              · simp at h1; omega
              · simp at h1; omega
              · rw [if_pos rfl]; omega
              · simp at h1; omega
            · rw [htn]
              unfold tksP at h1
              rcases hways with ⟨rfl, hz⟩ | ⟨rfl, hz⟩ | ⟨rfl, hz⟩ | ⟨rfl, hz⟩
              · simp at h1; omega
              · simp at h1; omega
              · simp at h1; omega
              · rw [if_neg (by decide), if_pos rfl]; omega) (by omega) (fun i hi => by simp at hi) hr
          have hE := run_er (n := n) (t := t) l [] [] (fun c hc => (hck c hc).hk) rfl
          rw [hr] at hE
          cases hr2 : runC 1 0 (l.map kdC) [] with
          | none => rw [hr2] at hE; cases hE
          | some Q =>
            rw [hr2] at hE
            have hPQ : P.map erI = Q.map erI := by simpa using hE
            have hgQ : goodE Q = true := by
              have hall : ∀ c ∈ l.map kdC, tksP k c.k = true ∧ c = ⟨c.k, 0, 0⟩ := fun c hc => by
                obtain ⟨d, hd, rfl⟩ := List.mem_map.1 hc
                exact ⟨(hkinds d hd).1, rfl⟩
              rcases hways with ⟨rfl, hz⟩ | ⟨rfl, hz⟩ | ⟨rfl, hz⟩ | ⟨rfl, hz⟩
              · exact good_all _ 9 [] Q good_1 (fun c hc => by
                  obtain ⟨h1, h2⟩ := hall c hc
                  unfold tksP at h1
                  simp at h1
                  rcases h1 with h1 | h1 <;> rw [h1] at h2
                  · exact .inl h2
                  · exact .inr h2) hr2
              · exact good_all _ 9 [] Q good_3 (fun c hc => by
                  obtain ⟨h1, h2⟩ := hall c hc
                  unfold tksP at h1
                  simp at h1
                  rcases h1 with h1 | h1 <;> rw [h1] at h2
                  · exact .inl h2
                  · exact .inr h2) hr2
              · exact good_all _ 9 [] Q good_5 (fun c hc => by
                  obtain ⟨h1, h2⟩ := hall c hc
                  unfold tksP at h1
                  simp at h1
                  rcases h1 with h1 | h1 <;> rw [h1] at h2
                  · exact .inl h2
                  · exact .inr h2) hr2
              · exact good_all _ 9 [] Q good_7 (fun c hc => by
                  obtain ⟨h1, h2⟩ := hall c hc
                  unfold tksP at h1
                  simp at h1
                  rcases h1 with h1 | h1 <;> rw [h1] at h2
                  · exact .inl h2
                  · exact .inr h2) hr2
            exact chk_good (by rw [good_like (like_of hPQ)]; exact hgQ) (fun i hi => (hok i hi).1) (fun i hi => (hok i hi).2)

end Go.Proofs.YtcbkafbchpjnoaaGreatDoor
