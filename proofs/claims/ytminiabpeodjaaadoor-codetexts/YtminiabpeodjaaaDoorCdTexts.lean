/-
  CodeTexts, WALKED.
-/
import Derived.Test.YtminiabpeodjaaaDoorCdForms
import Derived.Test.YtminiabpeodjaaaDoorCdRParse
namespace Go.Proofs.YtminiabpeodjaaaDoor
set_option linter.unusedVariables false
set_option linter.unusedSimpArgs false
open Go.RowKit
attribute [local go_sem] Oper.semAt_some

theorem printA_form (i : InsD) : ∃ (t : ByteArray) (er : Int), printA i = .tuple #[.string t, .int .i64 er] := by
  unfold printA
  split
  · exact ⟨_, _, rfl⟩
  · exact ⟨_, _, rfl⟩
theorem parseA_form (r : Option InsD) : ∃ (o a v er : Int), parseA r = .tuple #[.agg #[.int .u8 o, .int .i64 a, .int .u64 v], .int .i64 er] := by
  cases r with
  | none => exact ⟨0, 0, 0, 3, rfl⟩
  | some i => exact ⟨i.op, i.arg, i.val, 0, rfl⟩

set_option maxRecDepth 100000 in
set_option maxHeartbeats 2000000 in
theorem texts_any {w : World} (h : Wds w) (E : Ev w) (i : InsD) (hw : i.Wf) (s : ByteArray) (hs : s.size ≤ 9223372036854775807) :
    Calls Tryd.prog 5 #[i.v, .string s] w fun e w' => e = .returned (.bool true) ∧ Touch w w' [] := by
  have HSH : Hid (∀ W, HidC Tryd.prog 14 #[.string s] W fun e w' => e = .returned (.string (shortS s)) ∧ W = w') := fun W => ⟨short_any s hs W⟩
  have hsl : (shortS s).size ≤ 100000 := by have := shortS_le s; omega
  have HL : Hid (∀ W, Touch w W [] → HidC Tryd.prog 16 #[] W fun e w' => e = .returned (.bool true) ∧ Touch W w' []) := fun W t => ⟨live_any (h.touch t (by simp))⟩
  have HP : Hid (∀ W, Touch w W [] → HidC Tryd.prog 27 #[i.v] W fun e w' => e = .returned (printA i) ∧ Touch W w' []) := fun W t => ⟨print_any (h.touch t (by simp)) (E.touch t).z i hw⟩
  have HRP : Hid (∀ W, HidC Tryd.prog 28 #[i.v] W fun e w' => e = .returned (printA i) ∧ Touch W w' []) := fun W => ⟨rprint_any W i hw⟩
  have HQ : Hid (∀ W, Touch w W [] → HidC Tryd.prog 29 #[.string (shortS s)] W fun e w' => e = .returned (parseA (parseP (shortS s))) ∧ Touch W w' []) := fun W t => ⟨parse_gen (h.touch t (by simp)) (E.touch t) _ hsl⟩
  have HRQ : Hid (∀ W, HidC Tryd.prog 30 #[.string (shortS s)] W fun e w' => e = .returned (parseA (parseP (shortS s))) ∧ Touch W w' []) := fun W => ⟨rparseI_any W _ hsl⟩
  obtain ⟨pt, pe, e1⟩ := printA_form i
  obtain ⟨ro, ra, rv, re, e2⟩ := parseA_form (parseP (shortS s))
  rw [e1] at HP HRP
  rw [e2] at HQ HRQ
  generalize shortS s = t at *
  have tB : Touch w (w.alloc (.cells #[.int .u8 i.op, .int .i64 i.arg, .int .u64 i.val] 26)) [] := (Touch.refl w []).alloc _
  have HBX : Hid (∀ W, Touch (w.alloc (.cells #[.int .u8 i.op, .int .i64 i.arg, .int .u64 i.val] 26)) W [] → BoxI W w.heap.size i.op i.arg i.val) := fun W t => (BoxI.new w i.op i.arg i.val).touch t (by simp)
  have HTB : Hid _ := tB
  have bx := HBX.out _ (Touch.refl _ _)
  obtain ⟨o, a, v⟩ := i
  simp only [InsD.v] at *
  obtain ⟨b0, b1, b2⟩ := bx.cells
  clear h E hw hs hsl e1 e2 tB bx
  go_enter Tryd.func5, Tryd.ntmps5
  go_wp2_with fail
  refine (HP.out _ HTB.out).out.mono ?_
  rintro e w1 ⟨rfl, t1⟩
  have T1 : Hid (Touch w w1 []) := HTB.out.trans t1 (by simp)
  clear b0 b1 b2 HP
  have bx := (HBX.out w1 t1).cells
  obtain ⟨b0, b1, b2⟩ := bx
  clear t1
  go_wp2_with fail
  refine (HRP.out _).out.mono ?_
  rintro e w2 ⟨rfl, t2⟩
  have T2 : Hid (Touch w w2 []) := T1.out.trans t2 (by simp)
  clear b0 b1 b2 HRP t2
  go_wp2_with fail
  refine (HSH.out _).out.mono ?_
  rintro e _ ⟨rfl, rfl⟩
  go_wp2_with fail
  refine (HQ.out _ T2.out).out.mono ?_
  rintro e w3 ⟨rfl, t3⟩
  have T3 : Hid (Touch w (w3.alloc (.cells #[.int .u8 ro, .int .i64 ra, .int .u64 rv] 26)) []) := (T2.out.trans t3 (by simp)).alloc _
  have HX3 : Hid (BoxI (w3.alloc (.cells #[.int .u8 ro, .int .i64 ra, .int .u64 rv] 26)) w3.heap.size ro ra rv) := BoxI.new w3 ro ra rv
  clear t3 HQ
  go_wp2_with fail
  generalize w3.alloc (.cells #[.int .u8 ro, .int .i64 ra, .int .u64 rv] 26) = W3 at *
  generalize w3.heap.size = p3 at *
  refine (HSH.out _).out.mono ?_
  rintro e _ ⟨rfl, rfl⟩
  clear HSH
  go_wp2_with fail
  refine (HRQ.out _).out.mono ?_
  rintro e w4 ⟨rfl, t4⟩
  have T4 : Hid (Touch w (w4.alloc (.cells #[.int .u8 ro, .int .i64 ra, .int .u64 rv] 26)) []) := (T3.out.trans t4 (by simp)).alloc _
  have tA : Touch w4 (w4.alloc (.cells #[.int .u8 ro, .int .i64 ra, .int .u64 rv] 26)) [] := (Touch.refl w4 []).alloc _
  have HX4 : Hid (BoxI (w4.alloc (.cells #[.int .u8 ro, .int .i64 ra, .int .u64 rv] 26)) w4.heap.size ro ra rv) := BoxI.new w4 ro ra rv
  have HX34 : Hid (BoxI (w4.alloc (.cells #[.int .u8 ro, .int .i64 ra, .int .u64 rv] 26)) p3 ro ra rv) := (HX3.out.touch t4 (by simp)).touch tA (by simp)
  clear t4 HRQ tA HX3
  go_wp2_with fail
  generalize w4.alloc (.cells #[.int .u8 ro, .int .i64 ra, .int .u64 rv] 26) = W4 at *
  generalize w4.heap.size = p4 at *
  refine (HL.out _ T4.out).out.mono ?_
  rintro e w5 ⟨rfl, t5⟩
  have x := (HX4.out.touch t5 (by simp)).cells
  obtain ⟨x0, x1, x2⟩ := x
  have y := (HX34.out.touch t5 (by simp)).cells
  obtain ⟨y0, y1, y2⟩ := y
  have T5 : Hid _ := T4.out.trans t5 (by simp)
  clear t5 HL
  go_wp2
  go_ret
  exact ⟨rfl, T5.out⟩

end Go.Proofs.YtminiabpeodjaaaDoor
