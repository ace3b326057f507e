/-
  HistoryRight, WALKED.
-/
import Derived.Test.YtganlfgalcoepaaHistOrderLaw
import Derived.Test.YtganlfgalcoepaaHistIn
import Derived.Test.YtganlfgalcoepaaHistRefAtt
import Derived.Test.YtganlfgalcoepaaHistRefRt
import Derived.Test.YtganlfgalcoepaaSameInts
namespace Go.Proofs.Ytganlfgalcoepaa
set_option linter.unusedVariables false
set_option linter.unusedSimpArgs false
open Go.RowKit Go.Maps Go.Shelf
attribute [local go_sem] Oper.semAt_some

set_option maxRecDepth 100000 in
set_option maxHeartbeats 4000000 in
theorem hright_any (ao : Option Addr) (cap : Nat) (l : List EvD) (s : Int) (w : World) (hr : EvRow w (.slice ao l.length cap) l) (hc : l.length ≤ cap ∧ cap ≤ maxLen) (hwf : ∀ e ∈ l, e.Wf) :
    Calls Try.prog 3 #[.slice ao l.length cap, .int .u8 s] w (TrueN w) := by
  have hf := few_any hr hc
  have hrow := few_row hr
  have hwf' := few_wf hwf
  have hlen := few_len l
  generalize hm : l.take 60 = m at *
  clear hm
  have HR1 : Hid (∀ W, Touch w W [] → Calls Try.prog 8 #[.slice ao m.length cap] W fun x w' => x = .returned (.bool (rightS m)) ∧ Touch W w' []) := fun W t => right_of (SRow.keep hrow t (by simp)) (by omega) hwf'
  have HR2 : Hid (∀ W, Touch w W [] → Calls Try.prog 9 #[.slice ao m.length cap] W fun x w' => x = .returned (.bool (rightS m)) ∧ Touch W w' []) := fun W t => rhright_any (SRow.keep hrow t (by simp)) (by omega) hwf'
  have HA1 : Hid (∀ W, Touch w W [] → Calls Try.prog 11 #[.slice ao m.length cap] W fun x w' => ∃ v, x = .returned v ∧ intOwn w' W.heap.size v (attS m) ∧ Touch W w' []) := fun W t => attempts_any (SRow.keep hrow t (by simp)) (by omega) hwf'
  have HA2 : Hid (∀ W, Touch w W [] → Calls Try.prog 12 #[.slice ao m.length cap] W fun x w' => ∃ v, x = .returned v ∧ intOwn w' W.heap.size v (attS m) ∧ Touch W w' []) := fun W t => rattempts_any (SRow.keep hrow t (by simp)) (by omega)
  have HI1 : Hid (∀ W, Touch w W [] → Calls Try.prog 13 #[.slice ao m.length cap, .int .u8 s] W fun x w' => ∃ v, x = .returned v ∧ intOwn w' W.heap.size v ((attS m).filter fun x => !(stateS m x != s)) ∧ Touch W w' []) := fun W t => in_any (SRow.keep hrow t (by simp)) (by omega) hwf' s
  have HI2 : Hid (∀ W, Touch w W [] → Calls Try.prog 14 #[.slice ao m.length cap, .int .u8 s] W fun x w' => ∃ v, x = .returned v ∧ intOwn w' W.heap.size v ((attS m).filter fun x => !(stateS m x != s)) ∧ Touch W w' []) := fun W t => rin_any (SRow.keep hrow t (by simp)) (by omega) s
  have hal := attS_le m
  have hil := filter_le' (fun x => !(stateS m x != s)) (attS m)
  clear hr hc hwf hrow hwf'
  generalize (attS m).filter (fun x => !(stateS m x != s)) = ys at *
  generalize attS m = xs at *
  generalize rightS m = rt at *
  generalize l.length = N at *
  generalize m.length = n at *
  have HAL : Hid _ := hal
  have HIL : Hid _ := hil
  clear hal hil
  go_enter Try.func3, Try.ntmps3
  go_wp2_with fail
  refine hf.mono ?_
  rintro e w0 ⟨rfl, rfl⟩
  clear hf
  go_wp2_with fail
  refine (hlive_any _).mono ?_
  rintro e w1 ⟨rfl, u1⟩
  go_wp2_with fail
  refine (HR1.out w1 u1).mono ?_
  rintro e w2 ⟨rfl, t2⟩
  have u2 := u1.trans t2 (by simp)
  clear t2 u1
  go_wp2_with fail
  refine (HR2.out w2 u2).mono ?_
  rintro e w3 ⟨rfl, t3⟩
  have u3 := u2.trans t3 (by simp)
  clear t3 u2
  have hrt : (rt == rt) = true := by simp
  go_wp2_with fail
  refine (HA1.out w3 u3).mono ?_
  rintro e w4 ⟨v4, rfl, o4, t4⟩
  have u4 := u3.trans t4 (by simp)
  have O4 : Hid (intOwn w4 w3.heap.size v4 xs) := o4
  clear t4 u3 o4
  go_wp2_with fail
  refine (HA2.out w4 u4).mono ?_
  rintro e w5 ⟨v5, rfl, o5, t5⟩
  have u5 := u4.trans t5 (by simp)
  have c5 := sameInts_eq w3.heap.size w4.heap.size xs.length v4 v5 xs w5 (by have := HAL.out; omega) (ownsRow_touch O4.out t5 (by simp)) o5
  clear t5 u4 o5
  go_wp2_with fail
  refine c5.mono ?_
  rintro e w6 ⟨rfl, t6⟩
  have u6 := u5.trans t6 (by simp)
  clear t6 u5 c5
  go_wp2_with fail
  refine (HI1.out w6 u6).mono ?_
  rintro e w7 ⟨v7, rfl, o7, t7⟩
  have u7 := u6.trans t7 (by simp)
  have O7 : Hid (intOwn w7 w6.heap.size v7 ys) := o7
  clear t7 u6 o7
  go_wp2_with fail
  refine (HI2.out w7 u7).mono ?_
  rintro e w8 ⟨v8, rfl, o8, t8⟩
  have u8 := u7.trans t8 (by simp)
  have c8 := sameInts_eq w6.heap.size w7.heap.size ys.length v7 v8 ys w8 (by have := HAL.out; have := HIL.out; omega) (ownsRow_touch O7.out t8 (by simp)) o8
  clear t8 u7 o8
  go_wp2_with fail
  refine c8.mono ?_
  rintro e w9 ⟨rfl, t9⟩
  have u9 := u8.trans t9 (by simp)
  clear t9 u8 c8
  go_wp2
  go_ret
  exact ⟨by simp, u9⟩

end Go.Proofs.Ytganlfgalcoepaa
