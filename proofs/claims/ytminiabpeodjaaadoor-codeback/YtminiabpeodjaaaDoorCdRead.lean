/-
  package code: ReadWord BY ITS CONTRACT.
-/
import Derived.Test.YtminiabpeodjaaaDoorCdBw
namespace Go.Proofs.YtminiabpeodjaaaDoor
set_option linter.unusedVariables false
set_option linter.unusedSimpArgs false
open Go.RowKit Go.Maps
attribute [local go_sem] Oper.semAt_some

theorem zero_op (w : World) : (zeroValue 22).run Tryd.prog w = .ok (.int .u8 0) w := by
  obtain ⟨i, hi, hz⟩ : ∃ i, Tryd.prog.info? 22 = some i ∧ i.zero = some (.int .u8 0) := by
    have h : (Tryd.prog.info? 22).map (fun i => i.zero) = some (some (.int .u8 0)) := by kernel_rfl
    cases e : Tryd.prog.info? 22 with
    | none => rw [e] at h; simp at h
    | some i => rw [e] at h; simp at h; exact ⟨i, rfl, h⟩
  simp [zeroValue, typeInfo, hi, hz]

set_option maxRecDepth 100000 in
set_option maxHeartbeats 1000000 in
theorem readWord_any {w : World} (h : Wds w) (s : ByteArray) (hs : s.size ≤ maxLen) : Calls Tryd.prog 13 #[.string s] w fun e w' => e = .returned (.tuple #[(byK 29 s.data.toList).getD (.int .u8 0), .bool (byK 29 s.data.toList).isSome]) ∧ Touch w w' [] := by
  have hb : HidC _ _ _ _ _ := ⟨byWord_any h⟩
  clear h
  obtain ⟨v, hv⟩ : ∃ v, v = (byK 29 s.data.toList).getD (.int .u8 0) := ⟨_, rfl⟩
  obtain ⟨ok, hok⟩ : ∃ ok, ok = (byK 29 s.data.toList).isSome := ⟨_, rfl⟩
  rw [← hv, ← hok]
  have HV : Hid _ := hv
  have HOK : Hid _ := hok
  clear hv hok
  go_enter Tryd.func13, Tryd.ntmps13
  go_wp2_with fail
  refine hb.out.mono ?_
  rintro e w1 ⟨b, rfl, hM, t1⟩
  have hlk := hM.lookOk (t := 54) Tryd.underlying54 (zero_op w1) hs
  have T1 : Hid _ := t1
  rw [← HV.out, ← HOK.out] at hlk
  clear hb hM t1
  go_wp2
  refine bodyPost_ret (v := .tuple #[v, .bool ok]) (by simp [results, Tryd.results13, go_sem]) rfl ?_
  exact ⟨rfl, T1.out⟩

end Go.Proofs.YtminiabpeodjaaaDoor
