/-
  VerifyDepths, WALKED.
-/
import Derived.Test.YtonjbldnhbbdjaaVfRDep
import Derived.Test.YtonjbldnhbbdjaaVfLive2
namespace Go.Proofs.Ytonjbldnhbbdjaa
set_option linter.unusedVariables false
set_option linter.unusedSimpArgs false
open Go.RowKit
attribute [local go_sem] Oper.semAt_some

theorem dep_len (l : List InsD) : (depV l).2.2.length ≤ l.length := by
  have hb : (beginD l.length).length = l.length := (begin_inv l).dl
  have key : ∀ n D G, D.length = l.length → (roundsV l n D G).2.2.length ≤ l.length := by
    intro n
    induction n with
    | zero => intro D G h; simp [roundsV, h]
    | succ n ih =>
      intro D G h
      unfold roundsV
      split
      · simp [h]
      · rename_i i e
        split
        · simp
        · rename_i hq
          have hq' : (sprV l D i).1 = 0 := by simpa using hq
          refine ih _ _ ?_
          have hd : dAt D i ≠ -1 := by
            unfold leastV at e
            have := List.find?_some e
            simp at this
            exact this.1
          have := (spr_settled h hd (D' := (sprV l D i).2.1) (m := (sprV l D i).2.2) (by rw [← hq'])).1.len
          omega
  unfold depV
  split
  · simp
  · exact key _ _ _ hb

set_option maxRecDepth 100000 in
set_option maxHeartbeats 2000000 in
theorem vdepths_any (ao : Option Addr) (cap : Nat) (l : List InsD) (W : World) (hr : InsV W (.slice ao l.length cap) l) (hwf : ∀ i ∈ l, i.Wf) (hc : l.length ≤ cap) (hcm : cap ≤ 9223372036854775807) :
    Calls Try.prog 5 #[.slice ao l.length cap] W fun e w' => e = .returned (.bool true) ∧ Touch W w' [] := by
  have HFW : Hid (∀ W', Touch W W' [] → HidC Try.prog 8 #[.slice ao l.length cap] W' (fun e w' => e = .returned (.slice ao (l.take 65).length cap) ∧ W' = w')) := fun W' t => ⟨vfew_any (SRow.keep hr t (by simp)) hc hcm⟩
  have hfw := HFW.out W (Touch.refl _ _)
  have hr2 : InsV W (.slice ao (l.take 65).length cap) (l.take 65) := by
    have hl : (l.take 65).length ≤ l.length := by rw [List.length_take]; omega
    have q := insv_take hr (l.take 65).length cap hl
    rwa [show l.take (l.take 65).length = l.take 65 from by rw [List.length_take, List.take_eq_take_iff]; omega] at q
  have hn' : (l.take 65).length ≤ 65 := by rw [List.length_take]; omega
  have HR : Hid (InsV W (.slice ao (l.take 65).length cap) (l.take 65)) := hr2
  clear hr hr2 hwf
  generalize l.take 65 = p at *
  generalize l.length = n0 at *
  obtain ⟨N, hN⟩ : ∃ N, N = p.length := ⟨_, rfl⟩
  rw [← hN] at hfw HFW HR hn'
  have HN : Hid _ := hN
  have hdl := dep_len p
  rw [← hN] at hdl
  have hd1 : HidC _ _ _ _ _ := ⟨depths_any HN.out (by omega) HR.out⟩
  have HD2 : Hid (∀ W', Touch W W' [] → HidC Try.prog 19 #[.slice ao N cap] W' (DepPost W' p)) := fun W' t => ⟨rdepths_any HN.out (by omega) (SRow.keep HR.out t (by simp))⟩
  have HLI : Hid (∀ W, HidC Try.prog 10 #[] W (fun e w' => e = .returned (.bool true) ∧ Touch W w' [])) := fun W => ⟨vlive_any W⟩
  unfold DepPost at hd1 HD2
  generalize depV p = r at *
  obtain ⟨re, ri, rD⟩ := r
  clear hN
  go_enter Try.func5, Try.ntmps5
  go_wp2_with fail
  refine hfw.out.mono ?_
  rintro e w1 ⟨rfl, rfl⟩
  clear hfw
  go_wp2_with fail
  refine hd1.out.mono ?_
  rintro e w2 ⟨v2, rfl, o2, t2⟩
  have hf2 := HFW.out w2 t2
  have hd2 := HD2.out w2 t2
  have O2 : Hid (intOwnV w2 W.heap.size v2 rD) := o2
  have T2 : Hid _ := t2
  clear hd1 HD2 HFW o2 t2
  go_wp2_with fail
  refine hf2.out.mono ?_
  rintro e w3 ⟨rfl, rfl⟩
  clear hf2
  go_wp2_with fail
  refine hd2.out.mono ?_
  rintro e w4 ⟨v4, rfl, o4, t4⟩
  have hT4 : Touch W w4 [] := T2.out.trans t4 (by simp)
  have O4 : Hid (intOwnV w4 w2.heap.size v4 rD) := o4
  have T24 : Hid (Touch w2 w4 []) := t4
  have T4 : Hid _ := hT4
  have hli := HLI.out w4
  clear hd2 o4 t4 hT4 HLI
  go_wp2_with fail
  refine hli.out.mono ?_
  rintro e w5 ⟨rfl, t5⟩
  have hsi : HidC _ _ _ _ _ := ⟨sameInts_eq W.heap.size w2.heap.size rD.length v2 v4 rD w5 (by omega) (ownsRow_touch (ownsRow_touch O2.out T24.out (by simp)) t5 (by simp)) (ownsRow_touch O4.out t5 (by simp))⟩
  have T5 : Hid (Touch W w5 []) := T4.out.trans t5 (by simp)
  clear hli t5
  go_wp2_with fail
  refine hsi.out.mono ?_
  rintro e w6 ⟨rfl, t6⟩
  have T6 : Hid (Touch W w6 []) := T5.out.trans t6 (by simp)
  clear hsi t6
  go_wp2
  go_ret
  exact ⟨by simp, T6.out⟩

end Go.Proofs.Ytonjbldnhbbdjaa
