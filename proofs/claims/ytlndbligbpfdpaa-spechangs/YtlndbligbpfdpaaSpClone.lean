/-
  package spec: slices.Clone of values BY ITS CONTRACT.
-/
import Derived.Test.YtlndbligbpfdpaaSpStep
namespace Go.Proofs.Ytlndbligbpfdpaa
set_option linter.unusedVariables false
set_option linter.unusedSimpArgs false
open Go.RowKit
attribute [local go_sem] Oper.semAt_some

theorem eqNilS (w : World) (a : Option Addr) (n c : Nat) : (binOp .eql 23 (.slice a n c) (.slice none 0 0)).run Try.prog w = .ok (.bool a.isNone) w := Lib.run_eql_slice_nil w _ _ a n c 0 0 Try.underlying23
attribute [local go_sem] eqNilS

set_option maxRecDepth 100000 in
set_option maxHeartbeats 1000000 in
theorem sclone_any {w : World} {v : Value} {l : List Int} (hr : VRow w v l) (hl : l.length ≤ 100000) :
    Calls Try.prog 32 #[v] w (PushP w l) := by
  obtain ⟨ao, cap, rfl⟩ := hr.form
  cases ao with
  | none =>
    have hl0 : l = [] := by
      rcases l with _ | ⟨x, l⟩
      · rfl
      · obtain ⟨g, off, e, _⟩ := hr.at 0 (by simp); cases e
    subst hl0
    clear hr
    go_enter Try.func32, Try.ntmps32
    go_wp2
    go_ret
    exact ⟨_, rfl, World.ownsRow_nil _ _ _ _, Touch.refl _ _⟩
  | some a =>
    have t0 := (Touch.refl w []).alloc (.cells #[] 25)
    obtain ⟨i0, hi, hz0, hz1, hz2⟩ := info_partsE Try.info_val
    obtain ⟨v', w2, h1, h2, h3, h4⟩ := run_app (P := Try.prog) (cells := vcell) 23 23 25 i0 _ 1 8 Try.underlying23 hi hz0 hz1 hz2 rfl (by decide) (fun _ => rfl) (by simp [vcell, Value.oneCell']) (empty_row w 25 1) (SRow.keep hr t0 (by simp)) (by omega) (by decide) (by simp)
    rw [Nat.zero_add, List.nil_append, flat_one] at h2
    have HT : Hid (Touch w w2 []) := t0.grown h3 (by intro k hk; cases hk; exact .inr (Nat.le_refl _))
    obtain ⟨ao', cap', rfl⟩ := owns_slice h2
    have H2 : Hid _ := h2
    clear hr h2 h3 t0 h4
    generalize hn : l.length = n at h1 ⊢
    have HN : Hid _ := hn
    clear hn hl
    go_enter Try.func32, Try.ntmps32
    go_wp2_with (at_builtin; refine Lib.wpList_append_run _ rfl _ _ _ _ rfl _ _ rfl rfl _ _ h1 ?_)
    go_ret
    refine ⟨_, rfl, ?_, HT.out⟩
    have := H2.out
    rw [HN.out] at this
    show World.ownsRow _ _ _ _ _ _ _
    rw [HN.out]
    exact this

end Go.Proofs.Ytlndbligbpfdpaa
