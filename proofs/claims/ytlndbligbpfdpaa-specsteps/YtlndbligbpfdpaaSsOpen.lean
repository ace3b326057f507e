/-
  SpecSteps: every program and State.
-/
import Derived.Test.YtlndbligbpfdpaaSsLaw
import Derived.Test.YtlndbligbpfdpaaSnOpenA
namespace Go.Proofs.Ytlndbligbpfdpaa
set_option linter.unusedVariables false
set_option linter.unusedSimpArgs false
open Go.RowKit

theorem specsteps_any {W : World} {ap : Option Addr} {cp : Nat} {l : List InsD} {D : WD} {sa oa : Option Addr} {sc oc : Nat} (hl : InsRow W (.slice ap l.length cp) l) (hlw : ∀ i ∈ l, i.Wf) (hn : l.length ≤ cp ∧ cp ≤ maxLen) (hS : StOk W D sa oa sc oc) :
    Calls Try.prog 3 #[.slice ap l.length cp, stV D (.slice sa D.st.length sc) (.slice oa D.out.length oc)] W fun e w' => e = .returned (.bool true) ∧ Touch W w' [] := by
  unfold maxLen at hn
  obtain ⟨hpc, rs, ro, ws, wo, w0, w1, w2, w3, hcs, hco⟩ := hS
  have r1 := row_cut hl 64
  have r2 := row_cut rs 20
  have r3 := row_cut ro 30
  have e1 := cut_len 64 l
  have e2 := cut_len 20 D.st
  have e3 := cut_len 30 D.out
  have b1 : cutN 64 l.length ≤ 64 := by rw [← e1, List.length_take]; omega
  have b2 : cutN 20 D.st.length ≤ 20 := by rw [← e2, List.length_take]; omega
  have b3 : cutN 30 D.out.length ≤ 30 := by rw [← e3, List.length_take]; omega
  have k := specsteps_cut (w := W) (ap := ap) (sa := sa) (oa := oa) (N := l.length) (NS := D.st.length) (NO := D.out.length) (cp := cp) (sc := sc) (oc := oc) (l := l.take 64) (D := { D with st := D.st.take 20, out := D.out.take 30, fuel := 0 }) rfl
    ⟨by simp only [e2]; omega, by simp only [e3]; omega⟩
    (fun w => by rw [e1]; exact spfew_any ap l.length cp hn.1 (by omega) w)
    (fun w => by simp only [e2, e3]; exact spstate_any D sa oa D.st.length sc D.out.length oc hcs.1 hcs.2 hco.1 hco.2 w)
    ⟨by simp only [e2]; exact r2, by simp only [e3]; exact r3, by rw [e1]; exact r1, by rw [e1]; omega, by simp only [e2]; omega, by simp only [e3]; omega, fun i hi => hlw i (List.mem_of_mem_take hi), fun x hx => ws x (List.mem_of_mem_take hx)⟩
  exact k

end Go.Proofs.Ytlndbligbpfdpaa
