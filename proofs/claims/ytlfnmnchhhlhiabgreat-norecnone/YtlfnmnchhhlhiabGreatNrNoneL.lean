/-
  NorecNone, WALKED.
-/
import Derived.Test.YtlfnmnchhhlhiabGreatNrNone
namespace Go.Proofs.YtlfnmnchhhlhiabGreat.Nr
set_option linter.unusedVariables false
set_option linter.unusedSimpArgs false
open Go.RowKit Go.Maps

set_option maxRecDepth 100000 in
set_option maxHeartbeats 12800000 in
theorem none_any (dk dth ak at' av : Int) (ao : Option Addr) (cap : Nat) (l : List Int) (n : Int) (w : World) (hr : VRow0 w (.slice ao l.length cap) l) (hm : l.length ≤ maxLen) (hw : ∀ x ∈ l, Wf64 x) :
    Calls Tryz.prog 4 #[.agg #[.int .i64 dk, .int .i64 dth, .int .u8 ak, .int .i64 at', .int .u64 av], .slice ao l.length cap, .int .i64 n] w fun x w' => x = .returned (.bool true) ∧ Touch w w' [] := by
  have HN := fun (W : World) (t : Touch w W []) => HidC.mk (new_gen (SRow.keep hr t (by simp)) hm)
  have HH := fun (W : World) (t : Touch w W []) => HidC.mk (heaped_any (SRow.keep hr t (by simp)) hm hw)
  have HD : Hid (∀ W, Touch (w.alloc (.cells #[.int .i64 dk, .int .i64 dth, .int .u8 ak, .int .i64 at', .int .u64 av] 37)) W [] → Touch w W [] ∧ w.heap.size < W.heap.size ∧ W.cell? ⟨w.heap.size, 1, none⟩ = some (.int .i64 dth) ∧ W.cell? ⟨w.heap.size, 2, none⟩ = some (.int .u8 ak) ∧ W.cell? ⟨w.heap.size, 3, none⟩ = some (.int .i64 at') ∧ W.cell? ⟨w.heap.size, 4, none⟩ = some (.int .u64 av)) := by
    intro W t
    have hl : w.heap.size < (w.alloc (.cells #[.int .i64 dk, .int .i64 dth, .int .u8 ak, .int .i64 at', .int .u64 av] 37)).heap.size := by simp
    have hb := (t.block w.heap.size hl (by simp)).trans (heap_alloc_new w _)
    exact ⟨((Touch.refl w []).alloc _).trans t (by simp), Nat.lt_of_lt_of_le hl t.size, by simp [World.cell?, hb], by simp [World.cell?, hb], by simp [World.cell?, hb], by simp [World.cell?, hb]⟩
  clear hr hm hw
  generalize newOk l = ok at *
  generalize l.length = ln at *
  go_enter Tryz.func4, Tryz.ntmps4
  go_wp2_with fail
  refine (begin_nil dth _).mono ?_
  rintro x w1 ⟨rfl, rfl⟩
  go_wp2_with fail
  refine (attempt_nil dth _).mono ?_
  rintro x w1 ⟨rfl, rfl⟩
  go_wp2_with fail
  refine (asked_nil dth _).mono ?_
  rintro x w2 ⟨rfl, t2⟩
  have T3 : Hid _ := t2.alloc (.cells #[.int .u8 0, .int .i64 0, .int .u64 0] 35)
  have HP : Hid (∀ W, Touch (w2.alloc (.cells #[.int .u8 0, .int .i64 0, .int .u64 0] 35)) W [] → W.heap[w2.heap.size]? = some (.cells #[.int .u8 0, .int .i64 0, .int .u64 0] 35 (0, 0))) := fun W t => (t.block w2.heap.size (by simp) (by simp)).trans (heap_alloc_new w2 _)
  clear t2
  generalize hq : w.heap.size = q at *
  have HQ : Hid _ := hq
  clear hq
  go_wp2_with fail
  refine (nlive_any _).mono ?_
  rintro x w4 ⟨rfl, t4⟩
  have T4 : Hid _ := T3.out.trans t4 (by simp)
  have P4 : Hid _ := t4
  obtain ⟨_, _, d1, d2, d3, d4⟩ := HD.out w4 T4.out
  clear T3 t4
  go_wp2_with fail
  refine (ask_nil dth ⟨ak, at', av⟩ _).mono ?_
  rintro x w5 ⟨rfl, t5⟩
  have T5 : Hid _ := T4.out.trans t5 (by simp)
  have P5 : Hid _ := P4.out.trans t5 (by simp)
  clear d1 d2 d3 d4 T4 P4 t5
  obtain ⟨_, _, d1, d2, d3, d4⟩ := HD.out w5 T5.out
  go_wp2_with fail
  refine (step_nil dth _).mono ?_
  rintro x w6 ⟨rfl, t6⟩
  have T6 : Hid _ := T5.out.trans t6 (by simp)
  have P6 : Hid _ := P5.out.trans t6 (by simp)
  clear d1 d2 d3 d4 T5 P5 t6
  obtain ⟨tw, _, d1, _, _, _⟩ := HD.out w6 T6.out
  have b6 := HP.out w6 P6.out
  have p0 : w6.cell? ⟨w2.heap.size, 0, none⟩ = some (.int .u8 0) := by simp [World.cell?, b6]
  have p1 : w6.cell? ⟨w2.heap.size, 1, none⟩ = some (.int .i64 0) := by simp [World.cell?, b6]
  have p2 : w6.cell? ⟨w2.heap.size, 2, none⟩ = some (.int .u64 0) := by simp [World.cell?, b6]
  have NW := HN w6 tw
  have TW : Hid _ := tw
  clear HD HP T6 P6 b6 HN tw
  go_wp2_with fail
  refine (kill_nil dth _).mono ?_
  rintro x w7 ⟨rfl, rfl⟩
  go_wp2_with fail
  refine (heap_nil _).mono ?_
  rintro x w7 ⟨rfl, rfl⟩
  go_wp2_with fail
  refine (events_nil _).mono ?_
  rintro x w7 ⟨rfl, rfl⟩
  go_wp2_with fail
  refine (order_nil _).mono ?_
  rintro x w7 ⟨rfl, rfl⟩
  go_wp2_with fail
  refine (decided_nil _).mono ?_
  rintro x w7 ⟨rfl, rfl⟩
  go_wp2_with fail
  refine (why_nil n _).mono ?_
  rintro x w7 ⟨rfl, rfl⟩
  go_wp2_with fail
  refine (reads_nil dth _).mono ?_
  rintro x w7 ⟨rfl, rfl⟩
  go_wp2_with fail
  refine (writes_nil dth _).mono ?_
  rintro x w7 ⟨rfl, rfl⟩
  go_wp2_with fail
  refine (holds_nil dth _).mono ?_
  rintro x w7 ⟨rfl, rfl⟩
  go_wp2_with fail
  refine (valid_nil dth _).mono ?_
  rintro x w7 ⟨rfl, rfl⟩
  go_wp2_with fail
  refine (clock_nil _).mono ?_
  rintro x w7 ⟨rfl, rfl⟩
  go_wp2_with fail
  refine (fork_nil _).mono ?_
  rintro x w7 ⟨rfl, rfl⟩
  clear p0 p1 p2 d1
  go_wp2_with fail
  refine NW.out.mono ?_
  rintro x w8 ⟨t8, pp, rfl, hpp⟩
  have TW8 : Hid _ := TW.out.trans t8 (by simp)
  have HE := HH w8 TW8.out
  clear NW t8 TW HH
  cases pp with
  | none =>
    simp only [Option.isSome_none] at hpp
    subst hpp
    go_wp2_with fail
    refine HE.out.mono ?_
    rintro x w9 ⟨rfl, rfl⟩
    clear HE
    go_wp2
    go_ret
    exact ⟨rfl, TW8.out⟩
  | some a =>
    simp only [Option.isSome_some] at hpp
    subst hpp
    go_wp2_with fail
    refine HE.out.mono ?_
    rintro x w9 ⟨rfl, rfl⟩
    clear HE
    go_wp2
    go_ret
    exact ⟨rfl, TW8.out⟩

end Go.Proofs.YtlfnmnchhhlhiabGreat.Nr
