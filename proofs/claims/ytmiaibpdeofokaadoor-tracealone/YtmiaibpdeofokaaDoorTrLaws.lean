/-
  The statements on trace: what the arguments are cut to; TraceMerges.
-/
import Derived.Test.YtmiaibpdeofokaaDoorTrLive
import Derived.Test.YtmiaibpdeofokaaDoorTrMerge
import Derived.Test.YtmiaibpdeofokaaDoorAllB
import Derived.Test.YtmiaibpdeofokaaDoorCapsOf
namespace Go.Proofs.YtmiaibpdeofokaaDoor
set_option linter.unusedVariables false
set_option linter.unusedSimpArgs false
open Go.RowKit Go.Maps
attribute [local go_sem] Oper.semAt_some

def cut60 (n : Nat) : Nat := if 60 < n then 60 else n
theorem cut60_len {α : Type} (l : List α) : (l.take 60).length = cut60 l.length := by
  unfold cut60
  rw [List.length_take]
  split <;> omega
theorem trfew_any (ao : Option Addr) (n cap : Nat) (hn : n ≤ cap) (hc : cap ≤ 9223372036854775807) (w : World) : Calls Tryd.prog 7 #[.slice ao n cap] w fun e w' => e = .returned (.slice ao (cut60 n) cap) ∧ w' = w := by
  by_cases h : 60 < n
  · have e : cut60 n = 60 := by unfold cut60; rw [if_pos h]
    rw [e]
    have h1 : (60 : Int) < n := by omega
    have h2 : (60 : Int) ≤ cap := by omega
    have h3 : 60 ≤ cap := by omega
    clear e h
    go_enter Tryd.func7, Tryd.ntmps7
    go_wp2
    go_ret
    exact ⟨rfl, rfl⟩
  · have e : cut60 n = n := by unfold cut60; rw [if_neg h]
    rw [e]
    have h1 : ¬ (60 : Int) < n := by omega
    clear e h
    go_enter Tryd.func7, Tryd.ntmps7
    go_wp2
    go_ret
    exact ⟨rfl, rfl⟩
theorem row60 {w : World} {ao : Option Addr} {cap : Nat} {l : List EvD} (h : EvRow w (.slice ao l.length cap) l) : EvRow w (.slice ao (l.take 60).length cap) (l.take 60) := by
  by_cases hl : 60 ≤ l.length
  · exact SRow.first h 60 hl
  · rw [List.take_of_length_le (by omega)]; exact h
theorem merge_len (a b : List EvD) (ha : a.length ≤ 60) (hb : b.length ≤ 60) : (mergeT a b).2.length ≤ 1000 := by
  unfold mergeT
  split
  · split
    · simp
    · simp; omega
  · simp

set_option maxRecDepth 100000 in
set_option maxHeartbeats 2000000 in
theorem tracemerges_cut {w : World} (hw : Wdt w) (hz : Tz w) {ao bo : Option Addr} {na nb ca cb : Nat} {a b : List EvD}
    (fa : ∀ W, Calls Tryd.prog 7 #[.slice ao na ca] W fun e w' => e = .returned (.slice ao a.length ca) ∧ w' = W) (fb : ∀ W, Calls Tryd.prog 7 #[.slice bo nb cb] W fun e w' => e = .returned (.slice bo b.length cb) ∧ w' = W)
    (ra : EvRow w (.slice ao a.length ca) a) (rb : EvRow w (.slice bo b.length cb) b) (la : a.length ≤ 60) (lb : b.length ≤ 60) (wa : ∀ e ∈ a, e.Wf) (wb : ∀ e ∈ b, e.Wf) :
    Calls Tryd.prog 3 #[.slice ao na ca, .slice bo nb cb] w fun e w' => e = .returned (.bool true) ∧ Touch w w' [] := by
  have FA : Hid (∀ W, HidC _ _ _ _ _) := fun W => ⟨fa W⟩
  have FB : Hid (∀ W, HidC _ _ _ _ _) := fun W => ⟨fb W⟩
  have HM : Hid (∀ W, Touch w W [] → HidC Tryd.prog 6 #[.slice ao a.length ca, .slice bo b.length cb] W (MrgP W (mergeT a b))) := fun W t => ⟨tmerge_any (SRow.keep ra t (by simp)) (SRow.keep rb t (by simp)) (by omega) (by omega) wa wb⟩
  have HRM : Hid (∀ W, Touch w W [] → HidC Tryd.prog 8 #[.slice ao a.length ca, .slice bo b.length cb] W (MrgP W (mergeT a b))) := fun W t => ⟨rtmerge_any (SRow.keep ra t (by simp)) (SRow.keep rb t (by simp)) (by omega) (by omega) wa wb⟩
  have HLV : Hid (∀ W, Touch w W [] → HidC Tryd.prog 9 #[] W fun e w' => e = .returned (.bool true) ∧ Touch W w' []) := fun W t => ⟨trlive_any W (hw.touch t (by simp)) (hz.touch t)⟩
  have HLN : Hid _ := merge_len a b la lb
  clear fa fb ra rb la lb wa wb hw hz
  generalize a.length = La at *
  generalize b.length = Lb at *
  obtain ⟨⟨er, R⟩, hr⟩ : ∃ r, r = mergeT a b := ⟨_, rfl⟩
  rw [← hr] at HM HRM HLN
  clear hr
  have T0 : Hid (Touch w w []) := Touch.refl _ _
  go_enter Tryd.func3, Tryd.ntmps3
  go_wp2_with fail
  refine (FA.out _).out.mono ?_
  rintro e wx ⟨rfl, rfl⟩
  go_wp2_with fail
  refine (FB.out _).out.mono ?_
  rintro e wy ⟨rfl, rfl⟩
  go_wp2_with fail
  refine (HM.out _ T0.out).out.mono ?_
  rintro e w1 ⟨mo, mc, rfl, r1, t1⟩
  have T1 : Hid (Touch _ w1 []) := t1
  have R1' : Hid _ := r1
  clear t1 r1 HM T0
  go_wp2_with fail
  refine (FA.out _).out.mono ?_
  rintro e wx ⟨rfl, rfl⟩
  go_wp2_with fail
  refine (FB.out _).out.mono ?_
  rintro e wx ⟨rfl, rfl⟩
  go_wp2_with fail
  refine (HRM.out _ T1.out).out.mono ?_
  rintro e w2 ⟨mo', mc', rfl, r2, t2⟩
  have T2 : Hid (Touch _ w2 []) := T1.out.trans t2 (by simp)
  have HRA : Hid _ := SRow.keep R1'.out t2 (by simp)
  have HRB : Hid _ := r2
  clear t2 r2 HRM R1'
  go_wp2_with fail
  refine (HLV.out _ T2.out).out.mono ?_
  rintro e w3 ⟨rfl, t3⟩
  have T3 : Hid (Touch _ w3 []) := T2.out.trans t3 (by simp)
  have HSM : Hid (HidC _ _ _ _ _) := ⟨sameEv _ _ R w3 HLN.out (SRow.keep HRA.out t3 (by simp)) (SRow.keep HRB.out t3 (by simp))⟩
  clear t3 T2 HLV HRA HRB
  go_wp2_with fail
  refine HSM.out.out.mono ?_
  rintro e w4 ⟨rfl, t4⟩
  have T4 : Hid (Touch _ w4 []) := T3.out.trans t4 (by simp)
  clear t4 T3 HSM
  go_wp2
  go_ret
  exact ⟨rfl, T4.out⟩
theorem tracemerges_any {w : World} (hw : Wdt w) (hz : Tz w) {ao bo : Option Addr} {ca cb : Nat} {a b : List EvD} (ra : EvRow w (.slice ao a.length ca) a) (wa : ∀ e ∈ a, e.Wf) (ha : a.length ≤ ca ∧ ca ≤ maxLen) (rb : EvRow w (.slice bo b.length cb) b) (wb : ∀ e ∈ b, e.Wf) (hb : b.length ≤ cb ∧ cb ≤ maxLen) :
    Calls Tryd.prog 3 #[.slice ao a.length ca, .slice bo b.length cb] w fun e w' => e = .returned (.bool true) ∧ Touch w w' [] := by
  unfold maxLen at ha hb
  exact tracemerges_cut hw hz (a := a.take 60) (b := b.take 60) (fun W => by rw [cut60_len]; exact trfew_any ao a.length ca ha.1 (by omega) W) (fun W => by rw [cut60_len]; exact trfew_any bo b.length cb hb.1 (by omega) W) (row60 ra) (row60 rb) (by rw [List.length_take]; omega) (by rw [List.length_take]; omega) (fun e he => wa e (List.mem_of_mem_take he)) (fun e he => wb e (List.mem_of_mem_take he))

end Go.Proofs.YtmiaibpdeofokaaDoor
