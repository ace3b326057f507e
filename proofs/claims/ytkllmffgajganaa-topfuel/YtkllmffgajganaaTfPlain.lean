/-
  WHAT A BLOCK COMES TO WITH SOME FUEL IT COMES TO WITH MORE: plain data. No walk.
-/
import Derived.Test.YtkllmffgajganaaSpBlock
namespace Go.Proofs.Ytkllmffgajganaa
set_option linter.unusedVariables false
set_option linter.unusedSimpArgs false
open Go.RowKit

/-- Without the fuel. -/
def nfD (D : WD) : WD := { D with fuel := 0 }
def nfM (m : MkD) : MkD := ⟨nfD m.D, m.h, m.e⟩
def nfX (X : BX) : BX := ⟨nfD X.D, X.h, X.ms.map nfM, X.arms⟩

theorem step_nf (l : List InsD) (D : WD) (a : Int) : stepW l { D with fuel := a } = ((stepW l D).1, { (stepW l D).2 with fuel := a }) := by
  unfold stepW
  simp only
  split
  · rfl
  split
  · rfl
  split
  · rfl
  split
  · rfl
  unfold doW
  simp only
  split
  · split <;> rfl
  split
  · unfold WD.setL; simp only; split; rfl; split; rfl; split <;> rfl
  split
  · split <;> rfl
  split
  · split
    · rfl
    · split <;> rfl
  · rfl
theorem step_same (l : List InsD) {D E : WD} (h : nfD D = nfD E) : (stepW l D).1 = (stepW l E).1 ∧ nfD (stepW l D).2 = nfD (stepW l E).2 := by
  have h1 := step_nf l D 0
  have h2 := step_nf l E 0
  have e : stepW l { D with fuel := 0 } = stepW l { E with fuel := 0 } := congrArg (stepW l) h
  rw [h1, h2] at e
  simp only [Prod.mk.injEq] at e
  exact e
theorem last_same {ms ns : List MkD} (h : ms.map nfM = ns.map nfM) : (ms.getLast?).map nfM = (ns.getLast?).map nfM ∧ ms.dropLast.map nfM = ns.dropLast.map nfM := by
  constructor
  · rw [← List.getLast?_map, ← List.getLast?_map, h]
  · rw [List.map_dropLast, List.map_dropLast, h]

theorem do_same (l : List InsD) (i : InsD) {X Y : BX} (h : nfX X = nfX Y) : (doB l X i).1 = (doB l Y i).1 ∧ nfX (doB l X i).2 = nfX (doB l Y i).2 := by
  obtain ⟨⟨pc, st, l0, l1, l2, l3, out, fu⟩, hh, ms, arms⟩ := X
  obtain ⟨⟨pc', st', l0', l1', l2', l3', out', fu'⟩, hh', ms', arms'⟩ := Y
  simp only [nfX, nfD, BX.mk.injEq, WD.mk.injEq, and_true] at h
  obtain ⟨⟨rfl, rfl, rfl, rfl, rfl, rfl, rfl⟩, rfl, hm, rfl⟩ := h
  unfold doB
  split
  · exact ⟨rfl, by simp only [nfX, nfD, hm]⟩
  split
  · unfold reachB
    simp only
    split
    · exact ⟨rfl, by simp only [nfX, nfD, hm]⟩
    split
    · exact ⟨rfl, by simp only [nfX, nfD, hm]⟩
    split
    · exact ⟨rfl, by simp only [nfX, nfD, hm]⟩
    · exact ⟨rfl, by simp only [nfX, nfD, hm]⟩
  split
  · simp only
    split
    · exact ⟨rfl, by simp only [nfX, nfD, hm]⟩
    · unfold brB
      simp only
      obtain ⟨hl, hd⟩ := last_same hm
      split
      · exact ⟨rfl, by simp only [nfX, nfD, nfM, List.map_append, hm, List.map_cons, List.map_nil]⟩
      split
      · cases e1 : ms.getLast? with
        | none =>
          rw [e1] at hl
          cases e2 : ms'.getLast? with
          | none => exact ⟨rfl, by simp only [nfX, nfD, hm]⟩
          | some m => rw [e2] at hl; cases hl
        | some m =>
          rw [e1] at hl
          cases e2 : ms'.getLast? with
          | none => rw [e2] at hl; cases hl
          | some m' => exact ⟨rfl, by simp only [nfX, nfD, hd]⟩
      split
      · exact ⟨rfl, by simp only [nfX, nfD, hm]⟩
      split
      · cases e1 : ms.getLast? with
        | none =>
          rw [e1] at hl
          cases e2 : ms'.getLast? with
          | none => exact ⟨rfl, by simp only [nfX, nfD, hm]⟩
          | some m => rw [e2] at hl; cases hl
        | some m =>
          rw [e1] at hl
          cases e2 : ms'.getLast? with
          | none => rw [e2] at hl; cases hl
          | some m' =>
            rw [e2] at hl
            simp only [Option.map_some, Option.some.injEq] at hl
            obtain ⟨⟨a0, a1, a2, a3, a4, a5, a6, a7⟩, mh, me⟩ := m
            obtain ⟨⟨b0, b1, b2, b3, b4, b5, b6, b7⟩, nh, ne⟩ := m'
            simp only [nfM, nfD, MkD.mk.injEq, WD.mk.injEq, and_true] at hl
            obtain ⟨⟨rfl, rfl, rfl, rfl, rfl, rfl, rfl⟩, rfl, rfl⟩ := hl
            exact ⟨rfl, by simp only [nfX, nfD, hd]⟩
      · exact ⟨rfl, by simp only [nfX, nfD, hm]⟩
  · obtain ⟨h1, h2⟩ := step_same l (D := ⟨pc, st, l0, l1, l2, l3, out, fu⟩) (E := ⟨pc, st, l0, l1, l2, l3, out, fu'⟩) rfl
    exact ⟨h1, by simp only [nfX, hm]; rw [h2]⟩

theorem run_more (l : List InsD) : ∀ (n m : Nat) (X Y : BX), nfX X = nfX Y → (runB l n X).1 ≠ 11 → (runB l (n + m) Y).1 = (runB l n X).1 ∧ nfX (runB l (n + m) Y).2 = nfX (runB l n X).2 := by
  intro n
  induction n with
  | zero =>
    intro m X Y h hne
    have hpc : X.D.pc = Y.D.pc := by have := congrArg (fun Z : BX => Z.D.pc) h; exact this
    cases hh : hereP l X.D.pc with
    | some i => exact absurd (by simp only [runB, hh]) hne
    | none =>
      have hh' : hereP l Y.D.pc = none := by rw [← hpc]; exact hh
      cases m with
      | zero => simp only [runB, hh, hh']; exact ⟨trivial, h.symm⟩
      | succ m => rw [Nat.zero_add]; simp only [runB, hh, hh']; exact ⟨trivial, h.symm⟩
  | succ n ih =>
    intro m X Y h hne
    have hpc : X.D.pc = Y.D.pc := by have := congrArg (fun Z : BX => Z.D.pc) h; exact this
    have en : n + 1 + m = (n + m) + 1 := by omega
    cases hh : hereP l X.D.pc with
    | none =>
      have hh' : hereP l Y.D.pc = none := by rw [← hpc]; exact hh
      rw [en]
      simp only [runB, hh, hh']
      exact ⟨trivial, h.symm⟩
    | some i =>
      have hh' : hereP l Y.D.pc = some i := by rw [← hpc]; exact hh
      have hs : nfX { X with D := { X.D with fuel := X.D.fuel - 1 } } = nfX { Y with D := { Y.D with fuel := Y.D.fuel - 1 } } := h
      obtain ⟨d1, d2⟩ := do_same l i hs
      rw [en, run_some hh'] at *
      rw [run_some hh] at hne ⊢
      rw [← d1]
      by_cases h0 : (doB l { X with D := { X.D with fuel := X.D.fuel - 1 } } i).1 = 0
      · rw [if_pos h0] at hne ⊢
        rw [if_pos h0]
        by_cases h22 : i.op = 22
        · rw [if_pos h22] at hne ⊢
          rw [if_pos h22]
          exact ⟨d1.symm, d2.symm⟩
        · rw [if_neg h22] at hne ⊢
          rw [if_neg h22]
          exact ih m _ _ d2 hne
      · rw [if_neg h0] at hne ⊢
        rw [if_neg h0]
        exact ⟨d1.symm, d2.symm⟩

theorem out_more (l : List InsD) (D : WD) (h : List Int) (f g : Int) (hf : 0 ≤ f) (hg : 0 ≤ g) (hne : (outX l D h f).1 ≠ 11) : (outX l D h (f + g)).1 = (outX l D h f).1 ∧ nfX (outX l D h (f + g)).2 = nfX (outX l D h f).2 := by
  unfold outX endB at hne ⊢
  simp only at hne ⊢
  split
  · rename_i hop
    rw [if_pos hop] at hne
    have e : ∃ m, (fuelW (f + g)).toNat = (fuelW f).toNat + m := ⟨(fuelW (f + g)).toNat - (fuelW f).toNat, by unfold fuelW; split <;> split <;> omega⟩
    obtain ⟨m, hm⟩ := e
    rw [hm]
    exact run_more l _ m _ _ rfl hne
  · exact ⟨rfl, rfl⟩

end Go.Proofs.Ytkllmffgajganaa
