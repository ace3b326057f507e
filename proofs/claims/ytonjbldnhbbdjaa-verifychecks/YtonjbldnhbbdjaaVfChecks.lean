/-
  VerifyChecks, WALKED.
-/
import Derived.Test.YtonjbldnhbbdjaaVfRCheck
import Derived.Test.YtonjbldnhbbdjaaVfLive2
namespace Go.Proofs.Ytonjbldnhbbdjaa
set_option linter.unusedVariables false
set_option linter.unusedSimpArgs false
open Go.RowKit
attribute [local go_sem] Oper.semAt_some

set_option maxRecDepth 100000 in
set_option maxHeartbeats 2000000 in
theorem vchecks_any (ao : Option Addr) (cap : Nat) (l : List InsD) (t : Int) (W : World) (hr : InsV W (.slice ao l.length cap) l) (hwf : ∀ i ∈ l, i.Wf) (hc : l.length ≤ cap) (hcm : cap ≤ 9223372036854775807) :
    Calls Try.prog 3 #[.slice ao l.length cap, .int .i64 t] W fun e w' => e = .returned (.bool true) ∧ Touch W w' [] := by
  have HFW : Hid (∀ W', Touch W W' [] → HidC Try.prog 8 #[.slice ao l.length cap] W' (fun e w' => e = .returned (.slice ao (l.take 65).length cap) ∧ W' = w')) := fun W' t => ⟨vfew_any (SRow.keep hr t (by simp)) hc hcm⟩
  have hfw := HFW.out W (Touch.refl _ _)
  have hr2 : InsV W (.slice ao (l.take 65).length cap) (l.take 65) := by
    have hl : (l.take 65).length ≤ l.length := by rw [List.length_take]; omega
    have q := insv_take hr (l.take 65).length cap hl
    rwa [show l.take (l.take 65).length = l.take 65 from by rw [List.length_take, List.take_eq_take_iff]; omega] at q
  have hn' : (l.take 65).length ≤ 65 := by rw [List.length_take]; omega
  have HR : Hid (InsV W (.slice ao (l.take 65).length cap) (l.take 65)) := hr2
  have HWF : Hid (∀ i ∈ l.take 65, i.Wf) := fun i hi => hwf i (List.mem_of_mem_take hi)
  clear hr hr2 hwf
  generalize l.take 65 = p at *
  generalize l.length = n0 at *
  obtain ⟨N, hN⟩ : ∃ N, N = p.length := ⟨_, rfl⟩
  rw [← hN] at hfw HFW HR hn'
  have HN : Hid _ := hN
  have hd1 : HidC _ _ _ _ _ := ⟨check_any HN.out (by omega) HR.out t⟩
  have HD2 : Hid (∀ W', Touch W W' [] → HidC Try.prog 9 #[.slice ao N cap, .int .i64 t] W' (ChkPost W' p t)) := fun W' t' => ⟨rcheck_any HN.out (by omega) (SRow.keep HR.out t' (by simp)) HWF.out t⟩
  have HLI : Hid (∀ W, HidC Try.prog 10 #[] W (fun e w' => e = .returned (.bool true) ∧ Touch W w' [])) := fun W => ⟨vlive_any W⟩
  unfold ChkPost at hd1 HD2
  generalize chkV p t = r at *
  obtain ⟨ri, re⟩ := r
  clear hN
  go_enter Try.func3, Try.ntmps3
  go_wp2_with fail
  refine hfw.out.mono ?_
  rintro e w1 ⟨rfl, rfl⟩
  clear hfw
  go_wp2_with fail
  refine hd1.out.mono ?_
  rintro e w2 ⟨rfl, t2⟩
  have hf2 := HFW.out w2 t2
  have hd2 := HD2.out w2 t2
  have T2 : Hid _ := t2
  clear hd1 HD2 HFW t2
  go_wp2_with fail
  refine hf2.out.mono ?_
  rintro e w3 ⟨rfl, rfl⟩
  clear hf2
  go_wp2_with fail
  refine hd2.out.mono ?_
  rintro e w4 ⟨rfl, t4⟩
  have T4 : Hid (Touch W w4 []) := T2.out.trans t4 (by simp)
  have hli := HLI.out w4
  clear hd2 t4 HLI
  go_wp2_with fail
  refine hli.out.mono ?_
  rintro e w5 ⟨rfl, t5⟩
  have T5 : Hid (Touch W w5 []) := T4.out.trans t5 (by simp)
  clear hli t5
  go_wp2
  go_ret
  exact ⟨by simp, T5.out⟩

end Go.Proofs.Ytonjbldnhbbdjaa
