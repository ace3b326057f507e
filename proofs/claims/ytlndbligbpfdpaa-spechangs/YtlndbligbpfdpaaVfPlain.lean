/-
  package verify: BRACKETS AS PLAIN DATA. No walk.
-/
import Derived.Test.YtlndbligbpfdpaaCdBase
import Derived.Test.YtlndbligbpfdpaaRowApp
namespace Go.Proofs.Ytlndbligbpfdpaa
set_option linter.unusedVariables false
set_option linter.unusedSimpArgs false
open Go.RowKit

def opensV (o : Int) : Bool := decide (o = 21 ∨ o = 23 ∨ o = 24)
def closesV (o : Int) : Bool := decide (o = 22 ∨ o = 24 ∨ o = 25)
def closerV (o : Int) : Int := if o = 21 then 22 else if o = 23 then 24 else if o = 24 then 25 else 0
def opAt (l : List InsD) (k : Nat) : Int := (l[k]?.map InsD.op).getD 0
def argAt (l : List InsD) (k : Nat) : Int := (l[k]?.map InsD.arg).getD 0
theorem opAt_get {l : List InsD} {k : Nat} (h : k < l.length) : opAt l k = l[k].op := by simp [opAt, h]
theorem argAt_get {l : List InsD} {k : Nat} (h : k < l.length) : argAt l k = l[k].arg := by simp [argAt, h]

/-- How far brackets are matched: those that are open (the innermost first), the least place that is wrong. -/
structure MD where
  op : List Nat
  wr : Option Nat
def blameV (k : Nat) : Option Nat → Option Nat
  | none => some k
  | some j => some (if k < j then k else j)
def topV : List Nat → Int
  | [] => -1
  | t :: _ => (t : Int)
def shutV (args : Bool) (l : List InsD) (k : Nat) (s : MD) : MD :=
  match s.op with
  | [] => ⟨s.op, blameV k s.wr⟩
  | t :: r => if closerV (opAt l t) = opAt l k then ⟨r, if args = true ∧ argAt l t ≠ (k : Int) then blameV t s.wr else s.wr⟩ else ⟨s.op, blameV k s.wr⟩
def mayV (o : Int) (op : List Nat) : Bool := if o = 21 then decide (op.length = 0) else if o = 23 then decide (0 < op.length ∧ op.length ≤ 4) else true
def armsV (l : List InsD) (op : List Nat) : Nat := (op.filter fun t => decide (opAt l t ≠ 21)).length
def mayR (l : List InsD) (o : Int) (op : List Nat) : Bool := if o = 21 then decide (op.length = 0) else if o = 23 then decide (0 < op.length ∧ armsV l op < 4) else true
def beginV (may : Int → List Nat → Bool) (l : List InsD) (k : Nat) (s : MD) : MD := ⟨k :: s.op, if may (opAt l k) s.op then s.wr else blameV k s.wr⟩
def step1V (args : Bool) (l : List InsD) (k : Nat) (s : MD) : MD := if closesV (opAt l k) then shutV args l k s else s
def stepV (args : Bool) (may : Int → List Nat → Bool) (l : List InsD) (k : Nat) (s : MD) : MD :=
  if opensV (opAt l k) then beginV may l k (step1V args l k s) else step1V args l k s
def runV (args : Bool) (may : Int → List Nat → Bool) (l : List InsD) : Nat → MD
  | 0 => ⟨[], none⟩
  | k + 1 => stepV args may l k (runV args may l k)

/-- What is open lies ahead. -/
theorem step_lt {args : Bool} {may : Int → List Nat → Bool} {l : List InsD} {k : Nat} {s : MD} (h : ∀ t ∈ s.op, t < k) : ∀ t ∈ (stepV args may l k s).op, t < k + 1 := by
  have h1 : ∀ t ∈ (step1V args l k s).op, t < k := by
    unfold step1V
    split
    · unfold shutV
      split
      · exact h
      · rename_i t r e
        split
        · intro x hx; exact h x (by rw [e]; simp [hx])
        · exact h
    · exact h
  unfold stepV
  split
  · intro t ht
    simp only [beginV, List.mem_cons] at ht
    rcases ht with rfl | ht
    · omega
    · have := h1 t ht; omega
  · intro t ht; have := h1 t ht; omega
theorem run_lt {args : Bool} {may : Int → List Nat → Bool} {l : List InsD} : ∀ k, ∀ t ∈ (runV args may l k).op, t < k
  | 0 => by simp [runV]
  | k + 1 => step_lt (run_lt k)
theorem step1_len {args : Bool} {l : List InsD} {k : Nat} {s : MD} : (step1V args l k s).op.length ≤ s.op.length := by
  unfold step1V
  split
  · unfold shutV
    split
    · exact Nat.le_refl _
    · rename_i t r e
      split
      · rw [e]; simp
      · exact Nat.le_refl _
  · exact Nat.le_refl _
theorem run_len {args : Bool} {may : Int → List Nat → Bool} {l : List InsD} : ∀ k, (runV args may l k).op.length ≤ k
  | 0 => by simp [runV]
  | k + 1 => by
    have h := run_len (args := args) (may := may) (l := l) k
    have h1 := step1_len (args := args) (l := l) (k := k) (s := runV args may l k)
    unfold runV stepV
    split
    · simp only [beginV, List.length_cons]; omega
    · omega
/-- What is wrong lies ahead. -/
theorem blame_lt {k n : Nat} {w : Option Nat} (hk : k < n) (h : ∀ j, w = some j → j < n) : ∀ j, blameV k w = some j → j < n := by
  intro j hj
  cases w with
  | none => simp [blameV] at hj; omega
  | some i =>
    have := h i rfl
    simp only [blameV, Option.some.injEq] at hj
    split at hj <;> omega
theorem step1_wr {args : Bool} {l : List InsD} {k : Nat} {s : MD} (h : ∀ t ∈ s.op, t < k) (hw : ∀ j, s.wr = some j → j < k) : ∀ j, (step1V args l k s).wr = some j → j < k + 1 := by
  have hw1 : ∀ j, s.wr = some j → j < k + 1 := fun j hj => by have := hw j hj; omega
  unfold step1V
  split
  · unfold shutV
    split
    · exact blame_lt (by omega) hw1
    · rename_i t r e
      split
      · show ∀ j, (if args = true ∧ argAt l t ≠ (k : Int) then blameV t s.wr else s.wr) = some j → j < k + 1
        split
        · exact blame_lt (by have := h t (by rw [e]; simp); omega) hw1
        · exact hw1
      · exact blame_lt (by omega) hw1
  · exact hw1
theorem run_wr {args : Bool} {may : Int → List Nat → Bool} {l : List InsD} : ∀ k, ∀ j, (runV args may l k).wr = some j → j < k
  | 0 => by simp [runV]
  | k + 1 => by
    have h1 := step1_wr (args := args) (l := l) (run_lt (args := args) (may := may) (l := l) k) (run_wr k)
    unfold runV stepV
    split
    · show ∀ j, (if may (opAt l k) (step1V args l k (runV args may l k)).op then _ else _) = some j → j < k + 1
      split
      · exact h1
      · exact blame_lt (by omega) h1
    · exact h1

/-- Behind what is wrong nothing later counts. -/
theorem blame_past {k j : Nat} (h : j < k) : blameV k (some j) = some j := by
  simp only [blameV, Option.some.injEq]; split <;> omega

/-- The document counts arms, the program all that is open: the same, as long as nothing is wrong. -/
def Sound (l : List InsD) (s : MD) : Prop := s.wr = none → s.op = [] ∨ ∃ m a, s.op = m ++ [a] ∧ opAt l a = 21 ∧ ∀ t ∈ m, opAt l t ≠ 21
theorem sound_tail {l : List InsD} {t : Nat} {r : List Nat} (h : ∃ m a, t :: r = m ++ [a] ∧ opAt l a = 21 ∧ ∀ t ∈ m, opAt l t ≠ 21) : r = [] ∨ ∃ m a, r = m ++ [a] ∧ opAt l a = 21 ∧ ∀ t ∈ m, opAt l t ≠ 21 := by
  obtain ⟨m, a, e, h1, h2⟩ := h
  cases m with
  | nil => left; simpa using (List.cons.inj e).2
  | cons x m => right; exact ⟨m, a, (List.cons.inj e).2, h1, fun t ht => h2 t (by simp [ht])⟩
theorem blame_some (k : Nat) (w : Option Nat) : blameV k w ≠ none := by cases w <;> simp [blameV]
theorem step1_sound {args : Bool} {l : List InsD} {k : Nat} {s : MD} (h : Sound l s) : Sound l (step1V args l k s) := by
  unfold step1V
  split
  · unfold shutV
    split
    · intro hw; exact absurd hw (blame_some _ _)
    · rename_i t r e
      split
      · intro hw
        have hw' : s.wr = none := by
          simp only at hw
          split at hw
          · exact absurd hw (blame_some _ _)
          · exact hw
        rcases h hw' with h0 | h0
        · rw [e] at h0; cases h0
        · rw [e] at h0; exact sound_tail h0
      · intro hw; exact absurd hw (blame_some _ _)
  · exact h
theorem arms_sound {l : List InsD} {m : List Nat} {a : Nat} (h1 : opAt l a = 21) (h2 : ∀ t ∈ m, opAt l t ≠ 21) : armsV l (m ++ [a]) = m.length := by
  unfold armsV
  rw [List.filter_append, List.length_append, List.filter_eq_self.2 (fun t ht => by simpa using h2 t ht)]
  simp [h1]
theorem may_same {l : List InsD} {s : MD} {o : Int} (h : Sound l s) (hw : s.wr = none) : mayR l o s.op = mayV o s.op := by
  unfold mayR mayV
  rcases h hw with h0 | ⟨m, a, h0, h1, h2⟩
  · simp [h0]
  · rw [h0, arms_sound h1 h2]
    simp only [List.length_append, List.length_singleton]
    have : decide (0 < m.length + 1 ∧ m.length < 4) = decide (0 < m.length + 1 ∧ m.length + 1 ≤ 4) := by simp; omega
    rw [this]
theorem step_same {args : Bool} {l : List InsD} {k : Nat} {s : MD} (h : Sound l s) (hlt : ∀ t ∈ s.op, t < k) (hwr : ∀ j, s.wr = some j → j < k) : stepV args (mayR l) l k s = stepV args mayV l k s ∧ Sound l (stepV args mayV l k s) := by
  have h1 := step1_sound (args := args) (k := k) h
  by_cases ho : opensV (opAt l k)
  · unfold stepV
    rw [if_pos ho, if_pos ho]
    cases hw : (step1V args l k s).wr with
    | none =>
      refine ⟨by unfold beginV; rw [may_same h1 hw], ?_⟩
      intro hw2
      unfold beginV at hw2 ⊢
      simp only at hw2 ⊢
      have hm : mayV (opAt l k) (step1V args l k s).op = true := by
        cases hm : mayV (opAt l k) (step1V args l k s).op
        · rw [hm] at hw2; simp at hw2; exact absurd hw2 (blame_some _ _)
        · rfl
      have hcs : opAt l k = 21 ∨ opAt l k = 23 ∨ opAt l k = 24 := by simpa [opensV] using ho
      right
      rcases h1 hw with h0 | ⟨m, a, h0, h2, h3⟩
      · rw [h0] at hm ⊢
        rcases hcs with e | e | e
        · exact ⟨[], k, rfl, e, by simp⟩
        · rw [e] at hm; simp [mayV] at hm
        · -- an Else that closes nothing is wrong
          exfalso
          have hcl : closesV (opAt l k) = true := by rw [e]; decide
          unfold step1V at hw h0
          rw [if_pos hcl] at hw h0
          unfold shutV at hw h0
          split at hw
          · exact absurd hw (blame_some _ _)
          · rename_i t r e1
            by_cases hc : closerV (opAt l t) = opAt l k
            · rw [if_pos hc] at hw
              rw [e1] at h0
              simp only [hc, if_true] at h0
              have hw' : s.wr = none := by
                simp only at hw
                split at hw
                · exact absurd hw (blame_some _ _)
                · exact hw
              rcases h hw' with hh | ⟨m, a, hh, ha, hm2⟩
              · rw [e1] at hh; cases hh
              · rw [e1, h0] at hh
                have : t = a := by
                  cases m with
                  | nil => simpa using hh
                  | cons x m => simp at hh
                rw [this, ha, e] at hc
                simp [closerV] at hc
            · rw [if_neg hc] at hw
              exact absurd hw (blame_some _ _)
      · rw [h0] at hm ⊢
        refine ⟨k :: m, a, rfl, h2, ?_⟩
        intro t ht
        rcases List.mem_cons.1 ht with rfl | ht
        · intro e
          rw [e] at hm
          simp [mayV] at hm
        · exact h3 t ht
    | some j =>
      have hj := step1_wr (args := args) (l := l) hlt hwr j hw
      refine ⟨?_, ?_⟩
      · unfold beginV
        rw [hw]
        have e : blameV k (some j) = some j := by
          simp only [blameV, Option.some.injEq]; split <;> omega
        rw [e]; simp
      · intro h2
        unfold beginV at h2
        rw [hw] at h2
        simp only at h2
        split at h2
        · cases h2
        · exact absurd h2 (blame_some _ _)
  · unfold stepV
    rw [if_neg ho, if_neg ho]
    exact ⟨rfl, h1⟩
theorem run_same {args : Bool} {l : List InsD} : ∀ k, runV args (mayR l) l k = runV args mayV l k ∧ Sound l (runV args mayV l k)
  | 0 => ⟨rfl, fun _ => .inl rfl⟩
  | k + 1 => by
    have ⟨h1, h2⟩ := run_same (args := args) (l := l) k
    show stepV args (mayR l) l k (runV args (mayR l) l k) = stepV args mayV l k (runV args mayV l k) ∧ _
    rw [h1]
    exact step_same h2 (run_lt k) (run_wr k)

/-- The bracket in which each of the first k stands. -/
def insV (l : List InsD) (k : Nat) : List Int := (List.range k).map fun j => topV (runV true mayV l j).op
theorem insV_succ (l : List InsD) (k : Nat) : insV l (k + 1) = insV l k ++ [topV (runV true mayV l k).op] := by
  unfold insV; rw [List.range_succ, List.map_append]; rfl
theorem insV_len (l : List InsD) (k : Nat) : (insV l k).length = k := by simp [insV]
def endV (s : MD) : Option Nat := match s.wr with | some k => some k | none => s.op.head?
/-- The first place that is wrong. -/
def regV (l : List InsD) : Option Nat := endV (runV true mayV l l.length)

end Go.Proofs.Ytlndbligbpfdpaa
