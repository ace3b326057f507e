/-
  THE DOCUMENT's package rowlockref08: Right BY ITS CONTRACT: the same as the program's.
-/
import Derived.Test.YtmiaibpdeofokaaGreatDoorHistRefFits
namespace Go.Proofs.YtmiaibpdeofokaaGreatDoor
set_option linter.unusedVariables false
set_option linter.unusedSimpArgs false
open Go.RowKit Go.Maps Go.Shelf
attribute [local go_sem] Oper.semAt_some

set_option maxRecDepth 100000 in
set_option maxHeartbeats 2000000 in
theorem rhright_any {w : World} {ao : Option Addr} {cap : Nat} {l : List EvD} (hr : EvRow w (.slice ao l.length cap) l) (hl : l.length ≤ 1000) (hwf : ∀ e ∈ l, e.Wf) :
    Calls Tryz.prog 25 #[.slice ao l.length cap] w fun x w' => x = .returned (.bool (rightS l)) ∧ Touch w w' [] := by
  obtain ⟨N, hN⟩ : ∃ N, N = l.length := ⟨_, rfl⟩
  have HN : Hid (N = l.length) := hN
  have HFI : Hid (∀ W, Touch w W [] → ∀ i (hi : i < l.length), Calls Tryz.prog 50 #[.slice ao N cap, .int .i64 i] W fun x w' => x = .returned (.bool (fitsS l i l[i])) ∧ Touch W w' []) := by
    intro W t i hi
    rw [hN]
    exact rfits_any (SRow.keep hr t (by simp)) hl hwf i hi
  obtain ⟨res, hres⟩ : ∃ r, r = rightS l := ⟨_, rfl⟩
  rw [← hres]
  have HRES : Hid (res = (decide (l.length ≤ 400) && (runC M0 l).isSome)) := hres
  rw [← hN] at hl ⊢
  clear hN hr hwf hres
  by_cases h400 : N ≤ 400
  · have h4 : (N : Int) ≤ 400 := by omega
    have HRS : Hid (res = (runC M0 l).isSome) := by show _ = _; rw [HRES.out, decide_eq_true (by rw [← HN.out]; exact h400)]; rfl
    clear HRES
    go_enter Tryz.func25, Tryz.ntmps25
    go_wp2_with fail
    go_loopw [3] (fun i wr => ∃ k : Nat, i = .int .i64 k ∧ k ≤ N ∧ (∃ M, runC M0 (l.take k) = some M) ∧ Touch w wr []) (fun i _ => N - (intOf i).toNat)
    case atStart => exact ⟨0, rfl, Nat.zero_le _, ⟨_, rfl⟩, Touch.refl _ _⟩
    case round =>
      obtain ⟨k, rfl, hk, ⟨M, hM⟩, hT⟩ := hrel
      by_cases hlt : k < N
      · have h1 : (k : Int) < N := by omega
        have hkl : k < l.length := by rw [← HN.out]; exact hlt
        have hf := HFI.out wr hT k hkl
        rw [← fits_step hkl hM] at hf
        have HM : Hid _ := hM
        have HT : Hid _ := hT
        clear hM hT
        cases hq : stepC M l[k] with
        | none =>
          rw [hq] at hf
          have HRF : Hid (res = false) := by show _ = _; rw [HRS.out, runC_fail hkl HM.out hq]; rfl
          simp only [Option.isSome_none] at hf
          clear hq HM HRS
          go_wp2_with fail
          refine hf.mono ?_
          rintro x w1 ⟨rfl, t1⟩
          have HT1 : Hid _ := HT.out.trans t1 (by simp)
          clear hf t1
          go_wp2
          go_ret
          exact ⟨by rw [HRF.out]; rfl, HT1.out⟩
        | some M' =>
          rw [hq] at hf
          have HM' : Hid (runC M0 (l.take (k + 1)) = some M') := by show _ = _; rw [runC_snoc hkl HM.out, hq]
          simp only [Option.isSome_some] at hf
          clear hq HM
          go_wp2_with fail
          refine hf.mono ?_
          rintro x w1 ⟨rfl, t1⟩
          have HT1 : Hid _ := HT.out.trans t1 (by simp)
          clear hf t1
          go_wp2
          go_roundw
          case rel => exact ⟨k + 1, by go_num, by omega, ⟨M', HM'.out⟩, HT1.out⟩
          case measure => simp [intOf]; omega
      · obtain rfl : k = N := by omega
        have HRT : Hid (res = true) := by
          show _ = _
          rw [HRS.out]
          rw [HN.out, List.take_length] at hM
          rw [hM]; rfl
        have HT : Hid _ := hT
        clear hM hT HRS
        go_wp2
        go_ret
        exact ⟨by rw [HRT.out]; rfl, HT.out⟩
  · have h4 : ¬ ((N : Int) ≤ 400) := by omega
    have HRF : Hid (res = false) := by show _ = _; rw [HRES.out, decide_eq_false (by rw [← HN.out]; exact h400)]; rfl
    clear HRES
    go_enter Tryz.func25, Tryz.ntmps25
    go_wp2
    go_ret
    exact ⟨by rw [HRF.out]; rfl, Touch.refl _ _⟩

end Go.Proofs.YtmiaibpdeofokaaGreatDoor
