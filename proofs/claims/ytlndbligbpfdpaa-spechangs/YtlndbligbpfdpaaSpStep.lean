/-
  package spec: step BY ITS CONTRACT: one plain function.
-/
import Derived.Test.YtlndbligbpfdpaaSpStepJ
import Derived.Test.YtlndbligbpfdpaaSpStepO
namespace Go.Proofs.Ytlndbligbpfdpaa
set_option linter.unusedVariables false
set_option linter.unusedSimpArgs false
open Go.RowKit

/-- One instruction, over values that are popped; 0, or the error by which it gets stuck. -/
def doW (np : Nat) (D : WD) (i : InsD) : Int × WD :=
  if i.op = 27 then (if D.out.length < 24 then (0, { D with out := D.out ++ [D.st.getD (D.st.length - 1) 0], st := D.st.take (D.st.length - 1) ++ [], pc := D.pc + 1 }) else (4, D))
  else if i.op = 3 then (0, { D.setL i.arg (D.st.getD (D.st.length - 1) 0) with st := D.st.take (D.st.length - 1) ++ [], pc := D.pc + 1 })
  else if i.op = 19 then (if i.arg ≤ np then (0, { D with st := D.st.take (D.st.length - 0) ++ [], pc := i.arg }) else (2, D))
  else if i.op = 20 then (if truthB (classB (ofB (D.st.getD (D.st.length - 1) 0).toNat)) = true then (0, { D with st := D.st.take (D.st.length - 1) ++ [], pc := D.pc + 1 }) else if i.arg ≤ np then (0, { D with st := D.st.take (D.st.length - 1) ++ [], pc := i.arg }) else (2, D))
  else (0, { D with st := D.st.take (D.st.length - (popV i.op).toNat) ++ pushW D i (D.st.drop (D.st.length - (popV i.op).toNat)), pc := D.pc + 1 })
def stepW (l : List InsD) (D : WD) : Int × WD :=
  if placeP D.pc l.length = false then (3, D)
  else if rightI (l.getD D.pc.toNat ⟨0, 0, 0⟩) = false then (3, D)
  else if plainO (l.getD D.pc.toNat ⟨0, 0, 0⟩).op = false then (3, D)
  else if fitsW (l.getD D.pc.toNat ⟨0, 0, 0⟩).op D.st.length = false then (12, D)
  else doW l.length D (l.getD D.pc.toNat ⟨0, 0, 0⟩)

/-- Behind step: gone on, or stuck. -/
def StepE (w : World) (b B : Nat) (T : TypeId) (tl : List Value) (vs vo vp : Value) (r : Int × WD) (e : Ending) (w' : World) : Prop :=
  (r.1 = 0 ∧ StepP w b B T tl vs vo vp r.2 e w') ∨ (r.1 ≠ 0 ∧ StuckP r.1 w e w')
theorem StepE.ok {w : World} {b B : Nat} {T : TypeId} {tl : List Value} {vs vo vp : Value} {D : WD} {f : FuncId} {xs : Array Value} (h : Calls Try.prog f xs w (StepP w b B T tl vs vo vp D)) : Calls Try.prog f xs w (StepE w b B T tl vs vo vp (0, D)) := h.mono fun e w' q => .inl ⟨rfl, q⟩
theorem StepE.no {w : World} {b B : Nat} {T : TypeId} {tl : List Value} {vs vo vp : Value} {D : WD} {f : FuncId} {xs : Array Value} {er : Int} (he : er ≠ 0) (h : Calls Try.prog f xs w (StuckP er w)) : Calls Try.prog f xs w (StepE w b B T tl vs vo vp (er, D)) := h.mono fun e w' q => .inr ⟨he, q⟩

theorem right_loc {i : InsD} (h : rightI i = true) (ho : i.op = 2 ∨ i.op = 3) : 0 ≤ i.arg ∧ i.arg < 4 := by
  unfold rightI at h
  simp only [Bool.and_eq_true, decide_eq_true_eq] at h
  have h1 := h.1.2
  have h0 := h.1.1.2
  rcases ho with q | q
  · rw [q] at h1
    have : highP 2 = 3 := rfl
    omega
  · rw [q] at h1
    have : highP 3 = 3 := rfl
    omega

theorem step_any {w : World} {b B : Nat} {T : TypeId} {tl : List Value} {vs vo : Value} {ap : Option Addr} {cp : Nat} {D : WD} {l : List InsD} (h : WOwn w b B T tl vs vo (.slice ap l.length cp) D) (hl : InsRow w (.slice ap l.length cp) l) (hll : l.length ≤ 9223372036854775807) (hn : D.st.length ≤ 1000) (hw : ∀ x ∈ D.st, Wf64 x) :
    Calls Try.prog 24 #[.pointer (some ⟨b, 0, none⟩)] w (StepE w b B T tl vs vo (.slice ap l.length cp) (stepW l D)) := by
  unfold stepW
  by_cases hp : placeP D.pc l.length = false
  · rw [if_pos hp]
    exact StepE.no (by decide) (step_here (here_far h.o hp))
  rw [if_neg hp]
  have hpl : 0 ≤ D.pc ∧ D.pc < l.length := by
    unfold placeP at hp
    simp only [Bool.not_eq_false, Bool.and_eq_true, decide_eq_true_eq] at hp
    exact hp
  obtain ⟨k, hk⟩ := Int.eq_ofNat_of_zero_le hpl.1
  have hkl : k < l.length := by omega
  have hgd : l.getD D.pc.toNat ⟨0, 0, 0⟩ = l[k] := by rw [hk, Int.toNat_natCast, List.getD, List.getElem?_eq_getElem hkl]; rfl
  rw [hgd]
  by_cases hr : rightI l[k] = false
  · rw [if_pos hr]
    exact StepE.no (by decide) (step_here (here_wrong h.o hl k hkl hk hr))
  rw [if_neg hr]
  have hr' : rightI l[k] = true := by simpa using hr
  have hh := here_ok h.o hl k hkl hk hr'
  generalize l[k] = i at *
  obtain ⟨io, ia, iv⟩ := i
  simp only [InsD.v] at hh
  by_cases hpo : plainO io = false
  · rw [if_pos hpo]
    exact StepE.no (by decide) (step_hangs hh hpo)
  rw [if_neg hpo]
  have hpo' : plainO io = true := by simpa using hpo
  obtain ⟨ao, cap, rfl⟩ : ∃ ao cap, vs = .slice ao D.st.length cap := owns_slice h.s
  obtain ⟨au, cu, rfl⟩ : ∃ ao cap, vo = .slice ao D.out.length cap := owns_slice h.u
  by_cases hf : fitsW io D.st.length = false
  · rw [if_pos hf]
    exact StepE.no (by decide) (step_stack h.o hn hh hpo' hf)
  rw [if_neg hf]
  have hf' : fitsW io D.st.length = true := by simpa using hf
  have hpc : 0 ≤ D.pc ∧ D.pc < 9223372036854775807 := by omega
  unfold doW
  simp only
  by_cases h27 : io = 27
  · subst h27
    rw [if_pos rfl]
    by_cases hs : D.out.length < 24
    · rw [if_pos hs]; exact StepE.ok (step_out h hn hpc hh hf' hs)
    · rw [if_neg hs]; exact StepE.no (by decide) (step_out_no h hn hpc hh hf' hs)
  rw [if_neg h27]
  by_cases h3 : io = 3
  · subst h3
    rw [if_pos rfl]
    obtain ⟨k0, k4⟩ := right_loc hr' (.inr rfl)
    simp only at k0 k4
    obtain ⟨k, rfl⟩ := Int.eq_ofNat_of_zero_le k0
    exact StepE.ok (step_set h hn hpc k (by omega) hh hf')
  rw [if_neg h3]
  by_cases h19 : io = 19
  · subst h19
    rw [if_pos rfl]
    by_cases hs : ia ≤ l.length
    · rw [if_pos hs]; exact StepE.ok (step_jump h hn hpc hh hf' hs)
    · rw [if_neg hs]; exact StepE.no (by decide) (step_jump_no h hn hpc hh hf' hs)
  rw [if_neg h19]
  by_cases h20 : io = 20
  · subst h20
    rw [if_pos rfl]
    by_cases ht : truthB (classB (ofB (D.st.getD (D.st.length - 1) 0).toNat)) = true
    · rw [if_pos ht]; exact StepE.ok (step_zero_stay h hn hpc hh hf' ht)
    · rw [if_neg ht]
      have ht' := eq_false_of_ne_true ht
      by_cases hs : ia ≤ l.length
      · rw [if_pos hs]; exact StepE.ok (step_zero_go h hn hpc hh hf' ht' hs)
      · rw [if_neg hs]; exact StepE.no (by decide) (step_zero_no h hn hpc hh hf' ht' hs)
  rw [if_neg h20]
  exact StepE.ok (step_rest h hn hw hpc hh hpo' hf' (fun q => right_loc hr' (.inl q)) h27 h3 h19 h20)

end Go.Proofs.Ytlndbligbpfdpaa
