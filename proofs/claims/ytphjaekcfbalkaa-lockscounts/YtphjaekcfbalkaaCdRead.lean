/-
  package code: ReadWord BY ITS CONTRACT.
-/
import Derived.Test.YtphjaekcfbalkaaCdBw
namespace Go.Proofs.Ytphjaekcfbalkaa
set_option linter.unusedVariables false
set_option linter.unusedSimpArgs false
open Go.RowKit Go.Maps
attribute [local go_sem] Oper.semAt_some

theorem zero_op (w : World) : (zeroValue 40).run Try.prog w = .ok (.int .u8 0) w := by
  obtain ⟨i, hi, hz⟩ : ∃ i, Try.prog.info? 40 = some i ∧ i.zero = some (.int .u8 0) := by
    have h : (Try.prog.info? 40).map (fun i => i.zero) = some (some (.int .u8 0)) := by kernel_rfl
    cases e : Try.prog.info? 40 with
    | none => rw [e] at h; simp at h
    | some i => rw [e] at h; simp at h; exact ⟨i, rfl, h⟩
  simp [zeroValue, typeInfo, hi, hz]

end Go.Proofs.Ytphjaekcfbalkaa
