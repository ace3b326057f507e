/-
  WHO TOOK THE CLOCK AHEAD OF A COMMIT, AS PLAIN DATA: four stripes, all ways. No walk.
-/
import Derived.Test.YtnlamhmjlgaomaaDoorOfPlain
import Derived.Test.YtnlamhmjlgaomaaDoorStripesHeld
import Derived.Test.YtnlamhmjlgaomaaDoorStripesPlay
namespace Go.Proofs.YtnlamhmjlgaomaaDoor
set_option linter.unusedVariables false
set_option linter.unusedSimpArgs false

def Lf (a b c d : Bool) : List Int := (if a then [0] else []) ++ ((if b then [1] else []) ++ ((if c then [2] else []) ++ (if d then [3] else [])))

theorem stripes4 (q : List Int) : ∃ a b c d, stripesP 4 q 4 = Lf a b c d := by
  refine ⟨q.any fun v => decide (ofP 4 v = ((0 : Nat) : Int)), q.any fun v => decide (ofP 4 v = ((1 : Nat) : Int)), q.any fun v => decide (ofP 4 v = ((2 : Nat) : Int)), q.any fun v => decide (ofP 4 v = ((3 : Nat) : Int)), ?_⟩
  have e : List.range 4 = [0, 1, 2, 3] := rfl
  unfold stripesP Lf
  rw [e]
  simp only [List.filter_cons, List.filter_nil]
  generalize (q.any fun v => decide (ofP 4 v = ((0 : Nat) : Int))) = a
  generalize (q.any fun v => decide (ofP 4 v = ((1 : Nat) : Int))) = b
  generalize (q.any fun v => decide (ofP 4 v = ((2 : Nat) : Int))) = c
  generalize (q.any fun v => decide (ofP 4 v = ((3 : Nat) : Int))) = d
  cases a <;> cases b <;> cases c <;> cases d <;> rfl

def lockK (L : List Int) (k : Nat) : List Int := (L.take k).foldl (fun ws s => (lockS ws 0 s).2) [0, 0, 0, 0]
def unlockK (ws L : List Int) (k : Nat) : List Int := (L.take k).foldl (fun ws s => (unlockS 1 ws 0 s 1).2) ws

theorem lockK_succ {L : List Int} {k : Nat} (hk : k < L.length) : lockK L (k + 1) = (lockS (lockK L k) 0 L[k]).2 := by
  unfold lockK
  rw [List.take_succ_eq_append_getElem hk, List.foldl_append]
  rfl
theorem unlockK_succ {ws L : List Int} {k : Nat} (hk : k < L.length) : unlockK ws L (k + 1) = (unlockS 1 (unlockK ws L k) 0 L[k] 1).2 := by
  unfold unlockK
  rw [List.take_succ_eq_append_getElem hk, List.foldl_append]
  rfl

theorem lockK_good (L : List Int) (k : Nat) : Good 0 (lockK L k) := by
  induction k with
  | zero => exact good_new 4 (by omega) (by omega)
  | succ k ih =>
    by_cases hk : k < L.length
    · rw [lockK_succ hk]; exact ih.lock _ _
    · have e : lockK L (k + 1) = lockK L k := by unfold lockK; rw [List.take_of_length_le (by omega), List.take_of_length_le (by omega)]
      rw [e]; exact ih
theorem lockK_good1 (L : List Int) (k : Nat) : Good 1 (lockK L k) := by
  have h := lockK_good L k
  exact ⟨h.pos, h.le, by omega, by omega, fun x hx => ⟨(h.word x hx).1, (h.word x hx).2.1, by have := (h.word x hx).2.2; omega⟩⟩
theorem unlockK_good (ws L : List Int) (k : Nat) (h : Good 1 ws) : Good 1 (unlockK ws L k) := by
  induction k with
  | zero => exact h
  | succ k ih =>
    by_cases hk : k < L.length
    · rw [unlockK_succ hk]; exact ih.unlock _ _ (by omega)
    · have e : unlockK ws L (k + 1) = unlockK ws L k := by unfold unlockK; rw [List.take_of_length_le (by omega), List.take_of_length_le (by omega)]
      rw [e]; exact ih
theorem lockK_len (L : List Int) (k : Nat) : (lockK L k).length = 4 := by
  induction k with
  | zero => rfl
  | succ k ih =>
    by_cases hk : k < L.length
    · rw [lockK_succ hk]
      unfold lockS
      split
      · rw [putS_len, ih]
      · exact ih
    · have e : lockK L (k + 1) = lockK L k := by unfold lockK; rw [List.take_of_length_le (by omega), List.take_of_length_le (by omega)]
      rw [e]; exact ih
theorem unlockK_len (ws L : List Int) (k : Nat) (h : ws.length = 4) : (unlockK ws L k).length = 4 := by
  induction k with
  | zero => exact h
  | succ k ih =>
    by_cases hk : k < L.length
    · rw [unlockK_succ hk]
      unfold unlockS
      split
      · split
        · exact ih
        · rw [putS_len, ih]
      · exact ih
    · have e : unlockK ws L (k + 1) = unlockK ws L k := by unfold unlockK; rw [List.take_of_length_le (by omega), List.take_of_length_le (by omega)]
      rw [e]; exact ih

theorem lf_len : ∀ a b c d : Bool, (Lf a b c d).length ≤ 4 := by decide
theorem lf_lock : ∀ a b c d : Bool, ∀ k : Fin 4, k.val < (Lf a b c d).length → (lockS (lockK (Lf a b c d) k.val) 0 ((Lf a b c d).getD k.val 0)).1 = 0 := by decide +kernel
theorem lf_unlock : ∀ a b c d : Bool, ∀ k : Fin 4, k.val < (Lf a b c d).length → (unlockS 1 (unlockK (lockK (Lf a b c d) (Lf a b c d).length) (Lf a b c d) k.val) 0 ((Lf a b c d).getD k.val 0) 1).1 = 0 := by decide +kernel
theorem lf_during : ∀ a b c d : Bool, ∀ o : Fin 4, (passesP (wordAt (lockK (Lf a b c d) (Lf a b c d).length) (o.val : Int)) 1 0 != (Lf a b c d).any fun s => decide (s = (o.val : Int))) = true := by decide +kernel
theorem lf_behind : ∀ a b c d : Bool, ∀ o : Fin 4, (passesP (wordAt (unlockK (lockK (Lf a b c d) (Lf a b c d).length) (Lf a b c d) (Lf a b c d).length) (o.val : Int)) 1 0 != (Lf a b c d).any fun s => decide (s = (o.val : Int))) = true ∧ passesP (wordAt (unlockK (lockK (Lf a b c d) (Lf a b c d).length) (Lf a b c d) (Lf a b c d).length) (o.val : Int)) 1 1 = true := by decide +kernel
theorem lf_held : ∀ a b c d : Bool, heldK (unlockK (lockK (Lf a b c d) (Lf a b c d).length) (Lf a b c d) (Lf a b c d).length) 0 4 = [] := by decide +kernel

end Go.Proofs.YtnlamhmjlgaomaaDoor
