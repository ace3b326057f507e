/-
  THE DOCUMENT's Print BY ITS CONTRACT.
-/
import Derived.Test.YtminiabpeodjaaaDoorCdRDig
namespace Go.Proofs.YtminiabpeodjaaaDoor
set_option linter.unusedVariables false
set_option linter.unusedSimpArgs false
open Go.RowKit
attribute [local go_sem] Oper.semAt_some

set_option maxRecDepth 100000 in
set_option maxHeartbeats 1000000 in
theorem rprint_any (w : World) (i : InsD) (hw : i.Wf) :
    Calls Tryd.prog 28 #[i.v] w fun e w' => e = .returned (printA i) ∧ Touch w w' [] := by
  have tB : Touch w (w.alloc (.cells #[.int .u8 i.op, .int .i64 i.arg, .int .u64 i.val] 26)) [] := (Touch.refl w []).alloc _
  have HBX : Hid (∀ W, Touch (w.alloc (.cells #[.int .u8 i.op, .int .i64 i.arg, .int .u64 i.val] 26)) W [] → BoxI W w.heap.size i.op i.arg i.val) := fun W t => (BoxI.new w i.op i.arg i.val).touch t (by simp)
  have HTB : Hid _ := tB
  have hrt : HidC _ _ _ _ _ := ⟨rrightI_any i hw (w.alloc (.cells #[.int .u8 i.op, .int .i64 i.arg, .int .u64 i.val] 26))⟩
  have HWD : Hid (∀ W, HidC Tryd.prog 20 #[.int .u8 i.op] W fun e w' => e = .returned (.string (wordP i.op)) ∧ Touch W w' []) := fun W => ⟨rword_any i.op hw.op.1 hw.op.2 W⟩
  have HUS : Hid (∀ W, HidC Tryd.prog 10 #[.int .u8 i.op] W fun e w' => e = .returned (.tuple #[.bool (argP i.op), .bool (valP i.op)]) ∧ W = w') := fun W => ⟨ruses_any i.op W⟩
  have HIT : Hid (rightI i = true → argP i.op = true → ∀ W, HidC Tryd.prog 41 #[.int .i64 i.arg] W fun e w' => e = .returned (.string (argT i.arg)) ∧ W = w') := fun hr ha W => ⟨rdigits_any i.arg (right_arg' hr ha).1 (right_arg' hr ha).2 W⟩
  have HHX : Hid (∀ W, HidC Tryd.prog 42 #[.int .u64 i.val] W fun e w' => e = .returned (.string (hexT i.val)) ∧ W = w') := fun W => ⟨rhex_any i.val hw.val W⟩
  have hws := wordP_size i.op hw.op.1
  have has : rightI i = true → argP i.op = true → (argT i.arg).size ≤ 2 := fun hr ha => argT_size _ (right_arg' hr ha).1 (right_arg' hr ha).2
  have hxs := hexT_size i.val
  have hex := arg_not_val (o := i.op)
  unfold printA printP
  generalize rightI i = ri at *
  generalize argP i.op = ap at *
  generalize valP i.op = vp at *
  generalize wordP i.op = wd at *
  generalize argT i.arg = at' at *
  generalize hexT i.val = hx at *
  have bx := HBX.out _ (Touch.refl _ _)
  obtain ⟨o, a, v⟩ := i
  simp only [InsD.v] at *
  obtain ⟨b0, b1, b2⟩ := bx.cells
  clear hw tB bx
  go_enter Tryd.func28, Tryd.ntmps28
  go_wp2_with fail
  refine hrt.out.mono ?_
  rintro e w1 ⟨rfl, t1⟩
  have T1 : Touch w w1 [] := HTB.out.trans t1 (by simp)
  have HB1 : Hid _ := HBX.out w1 t1
  have HT1 : Hid _ := T1
  have HT1B : Hid _ := t1
  clear hrt b0 b1 b2
  have bx := HB1.out.cells
  obtain ⟨b0, b1, b2⟩ := bx
  cases ri with
  | false =>
    clear t1 T1
    go_wp2
    refine bodyPost_ret (v := .tuple #[.string ⟨#[]⟩, .int .i64 3]) (by simp [results, Tryd.results28, go_sem]) rfl ?_
    exact ⟨rfl, HT1.out⟩
  | true =>
    clear t1 T1
    go_wp2_with fail
    refine (HUS.out _).out.mono ?_
    rintro e _ ⟨rfl, rfl⟩
    clear HUS
    go_wp2_with fail
    refine (HWD.out _).out.mono ?_
    rintro e w2 ⟨rfl, t2⟩
    have HT2 : Hid _ := HT1.out.trans t2 (by simp)
    clear b0 b1 b2
    have bx := (HBX.out w2 (HT1B.out.trans t2 (by simp))).cells
    obtain ⟨b0, b1, b2⟩ := bx
    clear HWD t2
    cases ap with
    | true =>
      obtain rfl : vp = false := hex rfl
      have hit := HIT.out (by simp) (by simp) w2
      have hs2 := has (by simp) (by simp)
      have hsz1 : (ByteArray.mk #[32]).size + at'.size ≤ 9223372036854775807 := by show 1 + at'.size ≤ _; omega
      have hsm1 := fun W : World => run_string_add_sum (P := Tryd.prog) (w := W) ⟨#[32]⟩ at' hsz1
      have hsz2 : wd.size + (ByteArray.mk #[32] ++ at').size ≤ 9223372036854775807 := by rw [ByteArray.size_append]; show wd.size + (1 + at'.size) ≤ _; omega
      have hsm2 := fun W : World => run_string_add_sum (P := Tryd.prog) (w := W) wd (⟨#[32]⟩ ++ at') hsz2
      generalize hc1 : (ByteArray.mk #[32]) ++ at' = c1 at hsm1 hsm2
      generalize hc2 : wd ++ c1 = c2 at hsm2
      have HC : Hid (c2 = wd ++ ⟨#[32]⟩ ++ at') := by show _ = _; rw [← hc2, ← hc1, ByteArray.append_assoc]
      clear hc1 hc2 has HIT hex hsz1 hsz2
      go_wp2_with fail
      refine hit.out.mono ?_
      rintro e _ ⟨rfl, rfl⟩
      clear hit
      go_wp2
      refine bodyPost_ret (v := .tuple #[.string c2, .int .i64 0]) (by simp [results, Tryd.results28, go_sem]) rfl ?_
      rw [HC.out]
      exact ⟨rfl, HT2.out⟩
    | false =>
      cases vp with
      | true =>
        have hhx := HHX.out w2
        have hsz1 : (ByteArray.mk #[32]).size + hx.size ≤ 9223372036854775807 := by show 1 + hx.size ≤ _; omega
        have hsm1 := fun W : World => run_string_add_sum (P := Tryd.prog) (w := W) ⟨#[32]⟩ hx hsz1
        have hsz2 : wd.size + (ByteArray.mk #[32] ++ hx).size ≤ 9223372036854775807 := by rw [ByteArray.size_append]; show wd.size + (1 + hx.size) ≤ _; omega
        have hsm2 := fun W : World => run_string_add_sum (P := Tryd.prog) (w := W) wd (⟨#[32]⟩ ++ hx) hsz2
        generalize hc1 : (ByteArray.mk #[32]) ++ hx = c1 at hsm1 hsm2
        generalize hc2 : wd ++ c1 = c2 at hsm2
        have HC : Hid (c2 = wd ++ ⟨#[32]⟩ ++ hx) := by show _ = _; rw [← hc2, ← hc1, ByteArray.append_assoc]
        clear hc1 hc2 has HIT hex HHX hsz1 hsz2
        go_wp2_with fail
        refine hhx.out.mono ?_
        rintro e _ ⟨rfl, rfl⟩
        clear hhx
        go_wp2
        refine bodyPost_ret (v := .tuple #[.string c2, .int .i64 0]) (by simp [results, Tryd.results28, go_sem]) rfl ?_
        rw [HC.out]
        exact ⟨rfl, HT2.out⟩
      | false =>
        clear has HIT hex HHX
        go_wp2
        refine bodyPost_ret (v := .tuple #[.string wd, .int .i64 0]) (by simp [results, Tryd.results28, go_sem]) rfl ?_
        exact ⟨rfl, HT2.out⟩

end Go.Proofs.YtminiabpeodjaaaDoor
