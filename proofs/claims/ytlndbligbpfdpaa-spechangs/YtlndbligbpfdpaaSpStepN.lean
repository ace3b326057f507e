/-
  package spec: step BY ITS CONTRACT, where it gets stuck ahead of its switch.
-/
import Derived.Test.YtlndbligbpfdpaaSpHereR
import Derived.Test.YtlndbligbpfdpaaSpExch
namespace Go.Proofs.Ytlndbligbpfdpaa
set_option linter.unusedVariables false
set_option linter.unusedSimpArgs false
open Go.RowKit
attribute [local go_sem] Oper.semAt_some

theorem StuckP.after {er : Int} {w w1 : World} (t : Touch w w1 []) {e : Ending} {w' : World} (h : StuckP er w1 e w') : StuckP er w e w' := ⟨h.1, t.trans h.2 (by simp)⟩

set_option maxRecDepth 100000 in
set_option maxHeartbeats 1000000 in
/-- Where here gives up. -/
theorem step_here {w : World} {b : Nat} (hh : Calls Try.prog 40 #[.pointer (some ⟨b, 0, none⟩)] w (StuckP 3 w)) : Calls Try.prog 24 #[.pointer (some ⟨b, 0, none⟩)] w (StuckP 3 w) := by
  have HH : HidC _ _ _ _ _ := ⟨hh⟩
  clear hh
  go_enter Try.func24, Try.ntmps24
  go_wp2_with fail
  refine HH.out.mono ?_
  rintro e w1 ⟨rfl, t1⟩
  exact ⟨rfl, rfl, t1⟩

set_option maxRecDepth 100000 in
set_option maxHeartbeats 1000000 in
theorem step_hangs {w : World} {b : Nat} {io ia iv : Int} (hh : Calls Try.prog 40 #[.pointer (some ⟨b, 0, none⟩)] w fun e w' => e = .returned (.agg #[.int .u8 io, .int .i64 ia, .int .u64 iv]) ∧ Touch w w' []) (hpl : plainO io = false) : Calls Try.prog 24 #[.pointer (some ⟨b, 0, none⟩)] w (StuckP 3 w) := by
  have HH : HidC _ _ _ _ _ := ⟨hh⟩
  have HG : Hid (∀ W, HidC Try.prog 42 #[.int .u8 io] W fun e w' => e = .returned (.bool false) ∧ W = w') := fun W => ⟨by have q := hangs_any io W; rw [hpl] at q; exact q⟩
  clear hh hpl
  go_enter Try.func24, Try.ntmps24
  go_wp2_with fail
  refine HH.out.mono ?_
  rintro e w1 ⟨rfl, t1⟩
  clear HH
  have HT : Hid (Touch w (w1.alloc (.cells #[.int .u8 io, .int .i64 ia, .int .u64 iv] 48)) []) := t1.alloc _
  obtain ⟨x0, x1, x2⟩ := (BoxI.new w1 io ia iv).cells
  go_wp2_with fail
  refine (HG.out _).out.mono ?_
  rintro e _ ⟨rfl, rfl⟩
  go_wp2_with fail
  refine (sneed_no 3 _).mono ?_
  rintro e w2 ⟨rfl, t2⟩
  exact ⟨rfl, rfl, HT.out.trans t2 (by simp)⟩

set_option maxRecDepth 100000 in
set_option maxHeartbeats 1000000 in
theorem step_stack {w : World} {b : Nat} {T : TypeId} {tl : List Value} {vo vp : Value} {ao : Option Addr} {n cap : Nat} {D : WD} (h : WObj w b T tl (.slice ao n cap) vo vp D) (hn : n ≤ 1000) {io ia iv : Int} (hh : Calls Try.prog 40 #[.pointer (some ⟨b, 0, none⟩)] w fun e w' => e = .returned (.agg #[.int .u8 io, .int .i64 ia, .int .u64 iv]) ∧ Touch w w' []) (hpl : plainO io = true) (hf : fitsW io n = false) : Calls Try.prog 24 #[.pointer (some ⟨b, 0, none⟩)] w (StuckP 12 w) := by
  have HH : HidC _ _ _ _ _ := ⟨hh⟩
  have HG : Hid (∀ W, HidC Try.prog 42 #[.int .u8 io] W fun e w' => e = .returned (.bool true) ∧ W = w') := fun W => ⟨by have q := hangs_any io W; rw [hpl] at q; exact q⟩
  have HP : Hid (∀ W, Touch w W [] → HidC Try.prog 43 #[.pointer (some ⟨b, 0, none⟩), .int .u8 io] W (StuckP 12 W)) := fun W t => ⟨popped_no (h.touch t (by simp)) hn io hf⟩
  clear hh hpl h hf
  go_enter Try.func24, Try.ntmps24
  go_wp2_with fail
  refine HH.out.mono ?_
  rintro e w1 ⟨rfl, t1⟩
  clear HH
  have HT : Hid (Touch w (w1.alloc (.cells #[.int .u8 io, .int .i64 ia, .int .u64 iv] 48)) []) := t1.alloc _
  obtain ⟨x0, x1, x2⟩ := (BoxI.new w1 io ia iv).cells
  go_wp2_with fail
  refine (HG.out _).out.mono ?_
  rintro e _ ⟨rfl, rfl⟩
  go_wp2_with fail
  refine (sneed_ok 3 _).mono ?_
  rintro e _ ⟨rfl, rfl⟩
  go_wp2_with fail
  refine (HP.out _ HT.out).out.mono ?_
  rintro e w2 ⟨rfl, t2⟩
  exact ⟨rfl, rfl, HT.out.trans t2 (by simp)⟩

end Go.Proofs.Ytlndbligbpfdpaa
