/-
  SpecLeft: its two programs, and what Block comes to there, RECKONED for all values.
-/
import Derived.Test.YtlndbligbpfdpaaSpLive
namespace Go.Proofs.Ytlndbligbpfdpaa
set_option linter.unusedVariables false
set_option linter.unusedSimpArgs false
open Go.RowKit

/-- What is at a place, whatever its value is. -/
def hereQ (l : List InsD) (pc : Int) : Option InsD := if placeP pc l.length then (if rightI { l.getD pc.toNat ⟨0, 0, 0⟩ with val := 0 } then some (l.getD pc.toNat ⟨0, 0, 0⟩) else none) else none
theorem right_at {l : List InsD} (h : ∀ i ∈ l, rightI i = rightI { i with val := 0 }) (pc : Int) : rightI (l.getD pc.toNat ⟨0, 0, 0⟩) = rightI { l.getD pc.toNat ⟨0, 0, 0⟩ with val := 0 } := by
  rw [List.getD_eq_getElem?_getD]
  cases e : l[pc.toNat]? with
  | none => rfl
  | some i => exact h i (List.mem_of_getElem? e)
theorem here_val {l : List InsD} (h : ∀ i ∈ l, rightI i = rightI { i with val := 0 }) (pc : Int) : hereP l pc = hereQ l pc := by
  unfold hereP hereQ
  rw [right_at h pc]
def stepQ (l : List InsD) (D : WD) : Int × WD :=
  if placeP D.pc l.length = false then (3, D)
  else
    if rightI { l.getD D.pc.toNat { op := 0, arg := 0, val := 0 } with val := 0 } = false then (3, D)
    else
      if plainO (l.getD D.pc.toNat { op := 0, arg := 0, val := 0 }).op = false then (3, D)
      else
        if fitsW (l.getD D.pc.toNat { op := 0, arg := 0, val := 0 }).op D.st.length = false then (12, D)
        else doW l.length D (l.getD D.pc.toNat { op := 0, arg := 0, val := 0 })
theorem step_val {l : List InsD} (h : ∀ i ∈ l, rightI i = rightI { i with val := 0 }) (D : WD) : stepW l D = stepQ l D := by
  unfold stepW stepQ
  rw [right_at h D.pc]
def doQ (l : List InsD) (X : BX) (i : InsD) : Int × BX :=
  if i.op = 27 ∨ i.op = 28 ∨ i.op = 21 then (3, X)
  else
    if i.op = 4 ∨ i.op = 5 ∨ i.op = 6 ∨ i.op = 7 then reachB X i
    else
      if i.op = 22 ∨ i.op = 23 ∨ i.op = 24 ∨ i.op = 25 ∨ i.op = 26 then
        if fitsW i.op X.D.st.length = false then (12, X) else brB X i
      else ((stepQ l X.D).fst, { D := (stepQ l X.D).snd, h := X.h, ms := X.ms, arms := X.arms })
theorem do_val {l : List InsD} (h : ∀ i ∈ l, rightI i = rightI { i with val := 0 }) (X : BX) (i : InsD) : doB l X i = doQ l X i := by
  unfold doB doQ
  rw [step_val h X.D]
def runQ (l : List InsD) : Nat → BX → Int × BX
  | 0, X => match hereQ l X.D.pc with
    | none => (3, X)
    | some _ => (11, X)
  | n + 1, X => match hereQ l X.D.pc with
    | none => (3, X)
    | some i => if (doQ l { X with D := { X.D with fuel := X.D.fuel - 1 } } i).1 = 0 then (if i.op = 22 then doQ l { X with D := { X.D with fuel := X.D.fuel - 1 } } i else runQ l n (doQ l { X with D := { X.D with fuel := X.D.fuel - 1 } } i).2) else doQ l { X with D := { X.D with fuel := X.D.fuel - 1 } } i
theorem run_val {l : List InsD} (h : ∀ i ∈ l, rightI i = rightI { i with val := 0 }) : ∀ n X, runB l n X = runQ l n X
  | 0, X => by
    unfold runB runQ
    rw [here_val h]
    cases hereQ l X.D.pc <;> rfl
  | n + 1, X => by
    unfold runB runQ
    rw [here_val h]
    cases hereQ l X.D.pc with
    | none => rfl
    | some i => simp only [run_val h n, do_val h]
def outQ (l : List InsD) (D : WD) (h : List Int) (f : Int) : Int × BX := if opAtW l D.pc = 21 then runQ l (fuelW f).toNat ⟨{ D with fuel := fuelW f, pc := D.pc + 1 }, h, [], []⟩ else (3, ⟨{ D with fuel := fuelW f }, h, [], []⟩)
theorem out_val {l : List InsD} (h : ∀ i ∈ l, rightI i = rightI { i with val := 0 }) (D : WD) (hp : List Int) (f : Int) : outX l D hp f = outQ l D hp f := by
  unfold outX endB outQ
  rw [run_val h]

def leftI (b : Bool) (t : Int) : InsD := if b then ⟨3, t, 0⟩ else ⟨5, t, 0⟩
def leftL (b : Bool) (t u v x : Int) : List InsD := [⟨21, 9, 0⟩, ⟨23, 5, 0⟩, ⟨1, 0, v⟩, leftI b t, ⟨26, 0, 0⟩, ⟨24, 8, 0⟩, ⟨1, 0, x⟩, ⟨5, u, 0⟩, ⟨25, 0, 0⟩, ⟨22, 0, 0⟩, ⟨28, 0, 0⟩]
def leftM (u x : Int) : List InsD := [⟨21, 3, 0⟩, ⟨1, 0, x⟩, ⟨5, u, 0⟩, ⟨22, 0, 0⟩, ⟨28, 0, 0⟩]
def leftH : List Int := [0, 4607182418800017408, 9221120237041090560, 9223372036854775808]
theorem push_val {v : Int} (h : rightB v = true) : rightI ⟨1, 0, v⟩ = rightI ⟨1, 0, 0⟩ := by
  have : rightB 0 = true := by decide +kernel
  unfold rightI
  simp [argP, valP, highP, h, this]
theorem left_val (b : Bool) (t u v x : Int) (hv : rightB v = true) (hx : rightB x = true) : ∀ i ∈ leftL b t u v x, rightI i = rightI { i with val := 0 } := by
  intro i hi
  simp only [leftL, List.mem_cons, List.not_mem_nil, or_false] at hi
  rcases hi with rfl | rfl | rfl | rfl | rfl | rfl | rfl | rfl | rfl | rfl | rfl
  all_goals first | exact push_val hv | exact push_val hx | rfl | (unfold leftI; split <;> rfl)
theorem leftM_val (u x : Int) (hx : rightB x = true) : ∀ i ∈ leftM u x, rightI i = rightI { i with val := 0 } := by
  intro i hi
  simp only [leftM, List.mem_cons, List.not_mem_nil, or_false] at hi
  rcases hi with rfl | rfl | rfl | rfl | rfl
  all_goals first | exact push_val hx | rfl
theorem left_out (b : Bool) (t u v x : Int) (ht : t = 0 ∨ t = 1 ∨ t = 2 ∨ t = 3) (hu : u = 0 ∨ u = 1 ∨ u = 2 ∨ u = 3) (hv : rightB v = true) (hx : rightB x = true) :
    outX (leftL b t u v x) zWD leftH 100 = (0, ⟨⟨10, [], 0, 0, 0, 0, [], 92⟩, leftH.set u.toNat x, [], [false]⟩) := by
  rw [out_val (left_val b t u v x hv hx)]
  rcases ht with rfl | rfl | rfl | rfl <;> rcases hu with rfl | rfl | rfl | rfl <;> cases b <;> kernel_rfl
theorem leftM_out (u x : Int) (hu : u = 0 ∨ u = 1 ∨ u = 2 ∨ u = 3) (hx : rightB x = true) :
    outX (leftM u x) zWD leftH 100 = (0, ⟨⟨4, [], 0, 0, 0, 0, [], 97⟩, leftH.set u.toNat x, [], []⟩) := by
  rw [out_val (leftM_val u x hx)]
  rcases hu with rfl | rfl | rfl | rfl <;> kernel_rfl

end Go.Proofs.Ytlndbligbpfdpaa
