/-
  live OF THE SIX STATEMENTS ON code.
-/
import Derived.Test.YtminiabpeodjaaaDoorAllA
import Derived.Test.YtminiabpeodjaaaDoorCdDecode
import Derived.Test.YtminiabpeodjaaaDoorCdParse
import Derived.Test.YtminiabpeodjaaaDoorVfEff
import Derived.Test.YtminiabpeodjaaaDoorCdRRead
namespace Go.Proofs.YtminiabpeodjaaaDoor
set_option linter.unusedVariables false
set_option linter.unusedSimpArgs false
open Go.RowKit
attribute [local go_sem] Oper.semAt_some

/-- jump 17 -/
def jump17 : ByteArray := ⟨#[106, 117, 109, 112, 32, 49, 55]⟩
theorem jump_blank : blankAt jump17 = some 4 := by decide +kernel
theorem jump_w : cutW jump17 = ⟨#[106, 117, 109, 112]⟩ := by unfold cutW; rw [jump_blank]; rfl
theorem jump_r : cutR jump17 = ⟨#[49, 55]⟩ := by unfold cutR; rw [jump_blank]; rfl
theorem jump_n : numN ⟨#[49, 55]⟩ = 17 := by decide +kernel
theorem jump_ok : numOk ⟨#[49, 55]⟩ = true := by decide +kernel
theorem jump_parse {w : World} (h : Wds w) : Calls Tryd.prog 29 #[.string ⟨#[106, 117, 109, 112, 32, 49, 55]⟩] w fun e w' => e = .returned (.tuple #[.agg #[.int .u8 19, .int .i64 17, .int .u64 0], .int .i64 0]) ∧ Touch w w' [] := by
  have q := parse_arg h jump17 (by decide) 19 (by rw [jump_blank]; rfl) (by rw [jump_w]; decide) (by rw [jump_r]; decide) (by rw [jump_w]; exact byK_hit (k := 19) (by omega) 29 (by omega) (by omega)) (by decide) (by rw [jump_r]; exact jump_ok) (by rw [jump_r, jump_n]; decide +kernel)
  rw [jump_r, jump_n] at q
  exact q

set_option maxRecDepth 100000 in
set_option maxHeartbeats 1000000 in
theorem live_any {w : World} (h : Wds w) : Calls Tryd.prog 16 #[] w fun e w' => e = .returned (.bool true) ∧ Touch w w' [] := by
  have t0 : Touch w (w.alloc (.cells #[.int .u8 4, .int .i64 3, .int .u64 0] 26)) [] := (Touch.refl w []).alloc _
  have hen : HidC _ _ _ _ _ := ⟨encode_any (l := [⟨4, 3, 0⟩]) (ins_new w ⟨4, 3, 0⟩) (by simp) (by
    intro i hi
    simp only [List.mem_singleton] at hi
    subst hi
    exact ⟨by simp only; omega, by simp only; omega, by unfold Wf64; simp only; omega⟩)⟩
  have T0 : Hid _ := t0
  have HW : Hid (Wds w) := h
  clear t0 h
  simp only [List.length_singleton] at hen
  go_enter Tryd.func16, Tryd.ntmps16
  go_wp2_with fail
  refine hen.out.mono ?_
  rintro e w1 (⟨_, v, rfl, hb, t1⟩ | ⟨hbad, _⟩)
  · have hT1 : Touch w w1 [] := T0.out.trans t1 (by simp)
    have hpa : HidC _ _ _ _ _ := ⟨jump_parse (HW.out.touch hT1 (by simp))⟩
    obtain ⟨a, c, rfl⟩ := owns_slice hb
    have HB : Hid (BRow w1 (.slice a 2 c) [4, 3]) := srow_of (cells := ucell) (n := 1) (fun _ => rfl) (by rw [flat_one]; exact hb)
    have HT1 : Hid _ := hT1
    clear hen hb t1 hT1
    have e2 : (encL [⟨4, 3, 0⟩]).length = 2 := by decide
    rw [e2]
    clear e2
    go_wp2_with fail
    refine hpa.out.mono ?_
    rintro e w2 ⟨rfl, t2⟩
    have tb : Touch w2 (w2.alloc (.cells #[.int .u8 19, .int .i64 17, .int .u64 0] 26)) [] := (Touch.refl w2 []).alloc _
    have HB2 : BRow (w2.alloc (.cells #[.int .u8 19, .int .i64 17, .int .u64 0] 26)) (.slice a 2 c) [4, 3] := (HB.out.keep t2 (by simp)).keep tb (by simp)
    have hcv := str_of (l := [4, 3]) HB2
    have HT2 : Hid (Touch w (w2.alloc (.cells #[.int .u8 19, .int .i64 17, .int .u64 0] 26)) []) := (HT1.out.trans t2 (by simp)).trans tb (by simp)
    have hef : HidC _ _ _ _ _ := ⟨eff_any 7 (w2.alloc (.cells #[.int .u8 19, .int .i64 17, .int .u64 0] 26))⟩
    have q1 : popV 7 = 2 := by decide
    have q2 : pushV 7 = 0 := by decide
    rw [q1, q2] at hef
    have hs : strOfNums [4, 3] = ⟨#[4, 3]⟩ := by decide +kernel
    rw [hs] at hcv
    simp only [List.length_cons, List.length_nil] at hcv
    clear hpa t2 HB2 q1 q2 HB tb hs
    go_wp2_with fail
    refine hef.out.mono ?_
    rintro e w3 ⟨rfl, rfl⟩
    clear hef
    go_wp2
    go_ret
    exact ⟨rfl, HT2.out⟩
  · exact absurd hbad (by decide +kernel)

end Go.Proofs.YtminiabpeodjaaaDoor
