/-
  Check HANGS ON THE OPS, AND ON THE PLACES THAT ARE JUMPED TO, alone (but for ranges): plain data.
-/
import Derived.Test.YtcbkafbchpjnoaaGreatDoorAllB
import Derived.Test.YtcbkafbchpjnoaaGreatDoorClPlain
namespace Go.Proofs.YtcbkafbchpjnoaaGreatDoor
set_option linter.unusedVariables false
set_option linter.unusedSimpArgs false
open Go.RowKit

def goI (o : Int) : Bool := decide (o = 19 ∨ o = 20 ∨ o = 21 ∨ o = 23 ∨ o = 24)
/-- An instruction without what Check does not look at. -/
def erI (i : InsD) : InsD := ⟨i.op, if goI i.op then i.arg else 0, 0⟩
/-- Alike. -/
structure Like (l m : List InsD) : Prop where
  len : l.length = m.length
  op : ∀ k, opAt l k = opAt m k
  arg : ∀ k, goI (opAt l k) = true → argAt l k = argAt m k
theorem like_of {l m : List InsD} (h : l.map erI = m.map erI) : Like l m := by
  have hl : l.length = m.length := by have := congrArg List.length h; simpa using this
  have hk : ∀ k : Nat, (l[k]?).map erI = (m[k]?).map erI := fun k => by have := congrArg (fun q : List InsD => q[k]?) h; simpa using this
  refine ⟨hl, fun k => ?_, fun k hg => ?_⟩
  · unfold opAt
    have := hk k
    cases h1 : l[k]? <;> cases h2 : m[k]? <;> rw [h1, h2] at this <;> simp [erI] at this ⊢
    exact this.1
  · unfold opAt at hg
    unfold argAt
    have := hk k
    cases h1 : l[k]? <;> cases h2 : m[k]? <;> rw [h1, h2] at this <;> simp [erI] at this ⊢
    rw [h1] at hg
    simp at hg
    rw [← this.1, hg] at this
    simpa using this.2

theorem shut_like {l m : List InsD} (h : Like l m) (k : Nat) (s : MD) (hc : closesV (opAt l k) = true) : shutV true l k s = shutV true m k s := by
  unfold shutV
  rw [← h.op k]
  cases s.op with
  | nil => rfl
  | cons t r =>
    simp only
    rw [← h.op t]
    by_cases hq : closerV (opAt l t) = opAt l k
    · rw [if_pos hq, if_pos hq]
      have hg : goI (opAt l t) = true := by
        unfold closesV at hc
        rw [decide_eq_true_eq, ← hq] at hc
        unfold closerV at hc
        unfold goI
        rw [decide_eq_true_eq]
        split at hc
        · omega
        · split at hc
          · omega
          · split at hc
            · omega
            · omega
      rw [h.arg t hg]
    · rw [if_neg hq, if_neg hq]
theorem step_like {l m : List InsD} (h : Like l m) (k : Nat) (s : MD) : stepV true mayV l k s = stepV true mayV m k s := by
  have h1 : step1V true l k s = step1V true m k s := by
    unfold step1V
    rw [← h.op k]
    cases hc : closesV (opAt l k) with
    | true => simp only [if_true]; exact shut_like h k s hc
    | false => rfl
  unfold stepV beginV
  rw [h1, h.op k]
theorem run_like {l m : List InsD} (h : Like l m) : ∀ k, runV true mayV l k = runV true mayV m k
  | 0 => rfl
  | k + 1 => by
    show stepV true mayV l k (runV true mayV l k) = stepV true mayV m k (runV true mayV m k)
    rw [run_like h k]
    exact step_like h k _
theorem ins_like {l m : List InsD} (h : Like l m) (k : Nat) : insV l k = insV m k := by
  unfold insV
  exact List.map_congr_left fun j _ => by rw [run_like h j]
theorem reg_like {l m : List InsD} (h : Like l m) : regV l = regV m := by
  unfold regV
  rw [h.len, run_like h]
theorem next_like {l m : List InsD} (h : Like l m) (i : Nat) : nextV l i = nextV m i := by
  unfold nextV
  rw [← h.op i]
  have ha : opAt l i = 19 ∨ opAt l i = 20 ∨ opAt l i = 23 ∨ opAt l i = 24 → argAt l i = argAt m i := fun hq => h.arg i (by unfold goI; rw [decide_eq_true_eq]; omega)
  by_cases h1 : opAt l i = 19
  · rw [if_pos h1, if_pos h1, ha (by omega)]
  · rw [if_neg h1, if_neg h1]
    by_cases h2 : opAt l i = 20
    · rw [if_pos h2, if_pos h2, ha (by omega)]
    · rw [if_neg h2, if_neg h2]
      by_cases h3 : opAt l i = 23
      · rw [if_pos h3, if_pos h3, ha (by omega)]
      · rw [if_neg h3, if_neg h3]
        by_cases h4 : opAt l i = 24
        · rw [if_pos h4, if_pos h4, ha (by omega)]
        · rw [if_neg h4, if_neg h4]
theorem spr_like {l m : List InsD} (h : Like l m) (D : List Int) (i : Nat) : sprV l D i = sprV m D i := by
  unfold sprV behV
  rw [h.op i, next_like h, h.len]
theorem rounds_like {l m : List InsD} (h : Like l m) : ∀ (n : Nat) (D : List Int) (G : List Bool), roundsV l n D G = roundsV m n D G
  | 0, D, G => rfl
  | n + 1, D, G => by
    unfold roundsV
    rw [h.len]
    cases leastV D G m.length with
    | none => rfl
    | some i => simp only; rw [spr_like h]; split
                · rfl
                · exact rounds_like h n _ _
theorem dep_like {l m : List InsD} (h : Like l m) : depV l = depV m := by
  unfold depV
  rw [reg_like h, h.len]
  cases regV m with
  | some k => rfl
  | none => exact rounds_like h _ _ _

/-- What of Check hangs on the ops and the places alone. -/
def jmpOk (l : List InsD) (ins : List Int) (k : Nat) : Bool := if opAt l k = 19 ∨ opAt l k = 20 then decide (0 ≤ argAt l k ∧ argAt l k < l.length) && (ins.getD (argAt l k).toNat 0 == ins.getD k 0) else true
def goodE (l : List InsD) : Bool := decide (l.length ≠ 0) && (decide (l.length ≤ 64) && ((regV l).isNone && ((fbad (okBel l) l.length).isNone && ((fbad (jmpOk l (insV l l.length)) l.length).isNone && decide ((depV l).1 = 0)))))
theorem good_like {l m : List InsD} (h : Like l m) : goodE l = goodE m := by
  have hb : okBel l = okBel m := by
    funext k
    unfold okBel
    rw [h.op k, h.len, ins_like h]
  have hj : jmpOk l (insV l l.length) = jmpOk m (insV m m.length) := by
    funext k
    unfold jmpOk
    rw [← h.op k, h.len, ins_like h]
    by_cases hq : opAt l k = 19 ∨ opAt l k = 20
    · rw [if_pos hq, if_pos hq, h.arg k (by unfold goI; rw [decide_eq_true_eq]; omega)]
    · rw [if_neg hq, if_neg hq]
  unfold goodE
  rw [hb, hj, reg_like h, dep_like h, h.len]
theorem fbad_isNone {p : Nat → Bool} {N : Nat} (h : (fbad p N).isNone = true) : ∀ j < N, p j = true := by
  intro j hj
  have : fbad p N = none := by cases hq : fbad p N with
    | none => rfl
    | some k => rw [hq] at h; cases h
  unfold fbad at this
  rw [List.find?_eq_none] at this
  have := this j (by simpa using hj)
  simpa using this
theorem chk_good {l : List InsD} {V : Int} (hg : goodE l = true) (hr : ∀ i ∈ l, rightI i = true) (hv : ∀ i ∈ l, varV i.op = true → i.arg < V) : (chkV l V).2 = 0 := by
  unfold goodE at hg
  simp only [Bool.and_eq_true, decide_eq_true_eq] at hg
  obtain ⟨g0, g1, g2, g3, g4, g5⟩ := hg
  have e2 : regV l = none := by cases hq : regV l with
    | none => rfl
    | some k => rw [hq] at g2; cases g2
  have e3 : fbad (okBel l) l.length = none := fbad_none (fbad_isNone g3)
  have e1 : fbad (okRight l) l.length = none := fbad_none (fun j hj => by
    unfold okRight
    rw [List.getElem?_eq_getElem hj]
    exact hr _ (List.getElem_mem hj))
  have e4 : fbad (rchV l (insV l l.length) V) l.length = none := fbad_none (fun j hj => by
    have := fbad_isNone g4 j hj
    unfold rchV
    cases hq : varV (opAt l j) with
    | true =>
      simp only [if_true, decide_eq_true_eq]
      rw [opAt_get hj] at hq
      rw [argAt_get hj]
      exact hv _ (List.getElem_mem hj) hq
    | false =>
      unfold jmpOk at this
      simpa using this)
  unfold chkV
  rw [if_neg (by omega), e1, e2, e3, e4]
  exact g5

/-- All programs of two kinds of calls, as far as there is room. -/
def goodAll (ka kb : Int) : Nat → List InsD → Bool
  | 0, _ => false
  | f + 1, acc => (if acc.length + 1 > 64 then true else goodE (acc ++ [insO 28 0])) &&
      ((if (stepC 1 0 acc ⟨ka, 0, 0⟩).length > 64 then true else goodAll ka kb f (stepC 1 0 acc ⟨ka, 0, 0⟩)) &&
       (if (stepC 1 0 acc ⟨kb, 0, 0⟩).length > 64 then true else goodAll ka kb f (stepC 1 0 acc ⟨kb, 0, 0⟩)))
theorem good_all {ka kb : Int} : ∀ (l : List CaD) (f : Nat) (acc P : List InsD), goodAll ka kb f acc = true → (∀ c ∈ l, c = ⟨ka, 0, 0⟩ ∨ c = ⟨kb, 0, 0⟩) → runC 1 0 l acc = some P → goodE P = true
  | [], f, acc, P, hg, hl, hP => by
    cases f with
    | zero => cases hg
    | succ f =>
      unfold goodAll at hg
      unfold runC at hP
      simp only [Bool.and_eq_true] at hg
      split at hP
      · cases hP
      · rename_i hq
        cases hP
        have := hg.1
        rwa [if_neg hq] at this
  | c :: l, f, acc, P, hg, hl, hP => by
    cases f with
    | zero => cases hg
    | succ f =>
      unfold goodAll at hg
      unfold runC at hP
      simp only [Bool.and_eq_true] at hg
      split at hP
      · cases hP
      · rename_i hq
        rcases hl c (by simp) with rfl | rfl
        · have := hg.2.1
          rw [if_neg hq] at this
          exact good_all l f _ P this (fun c hc => hl c (by simp [hc])) hP
        · have := hg.2.2
          rw [if_neg hq] at this
          exact good_all l f _ P this (fun c hc => hl c (by simp [hc])) hP

theorem good_split {ka kb : Int} {f : Nat} {acc : List InsD} (h0 : (if acc.length + 1 > 64 then true else goodE (acc ++ [insO 28 0])) = true) (h1 : goodAll ka kb f (stepC 1 0 acc ⟨ka, 0, 0⟩) = true) (h2 : goodAll ka kb f (stepC 1 0 acc ⟨kb, 0, 0⟩) = true) : goodAll ka kb (f + 1) acc = true := by
  unfold goodAll
  rw [h0, h1, h2]
  simp only [ite_self, Bool.and_self]
end Go.Proofs.YtcbkafbchpjnoaaGreatDoor
