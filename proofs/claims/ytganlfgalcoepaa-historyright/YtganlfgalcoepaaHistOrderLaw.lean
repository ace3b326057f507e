/-
  few BY ITS CONTRACT; HistoryOrder, WALKED.
-/
import Derived.Test.YtganlfgalcoepaaHistLive
import Derived.Test.YtganlfgalcoepaaHistOrder
namespace Go.Proofs.Ytganlfgalcoepaa
set_option linter.unusedVariables false
set_option linter.unusedSimpArgs false
open Go.RowKit Go.Maps Go.Shelf
attribute [local go_sem] Oper.semAt_some

/-- At most sixty of them. -/
theorem few_any {w : World} {ao : Option Addr} {cap : Nat} {l : List EvD} (hr : EvRow w (.slice ao l.length cap) l) (hc : l.length ≤ cap ∧ cap ≤ maxLen) :
    Calls Try.prog 6 #[.slice ao l.length cap] w fun e w' => e = .returned (.slice ao (l.take 60).length cap) ∧ w = w' := by
  obtain ⟨h1, h2⟩ := hc
  unfold maxLen at h2
  by_cases h60 : l.length ≤ 60
  · rw [List.take_of_length_le h60]
    have h' : ¬ ((l.length : Int) > 60) := by omega
    clear hr
    generalize l.length = N at *
    go_enter Try.func6, Try.ntmps6
    go_wp2
    go_ret
    exact ⟨rfl, rfl⟩
  · have hl : (l.take 60).length = 60 := by simp; omega
    rw [hl]
    obtain ⟨g, off, rfl, hx⟩ := hr.one 0 (by omega)
    have h' : ((l.length : Int) > 60) := by omega
    have hcz : (60 : Int) ≤ cap := by omega
    clear hr hl hx
    generalize l.length = N at *
    go_enter Try.func6, Try.ntmps6
    go_wp2
    go_ret
    exact ⟨rfl, rfl⟩

theorem few_row {w : World} {ao : Option Addr} {cap : Nat} {l : List EvD} (hr : EvRow w (.slice ao l.length cap) l) : EvRow w (.slice ao (l.take 60).length cap) (l.take 60) := by
  by_cases h60 : l.length ≤ 60
  · rw [List.take_of_length_le h60]; exact hr
  · exact SRow.first hr 60 (by omega)
theorem few_wf {l : List EvD} (h : ∀ e ∈ l, e.Wf) : ∀ e ∈ l.take 60, e.Wf := fun e he => h e (List.mem_of_mem_take he)
theorem few_len (l : List EvD) : (l.take 60).length ≤ 60 := by simp; omega

theorem right_run {l : List EvD} (h : rightS l = true) : ∃ M, runC M0 l = some M := by
  unfold rightS at h
  simp only [Bool.and_eq_true] at h
  exact Option.isSome_iff_exists.1 h.2

set_option maxRecDepth 100000 in
set_option maxHeartbeats 2000000 in
theorem horder_any (ao : Option Addr) (cap : Nat) (l : List EvD) (x0 x1 x2 : Int) (w : World) (hr : EvRow w (.slice ao l.length cap) l) (hc : l.length ≤ cap ∧ cap ≤ maxLen) (hwf : ∀ e ∈ l, e.Wf) (h0 : 0 ≤ x0 ∧ x0 ≤ 255) (h1 : 0 ≤ x1 ∧ x1 ≤ 255) (h2 : 0 ≤ x2 ∧ x2 ≤ 255) :
    Calls Try.prog 5 #[.slice ao l.length cap, .agg #[.int .u8 x0, .int .u8 x1, .int .u8 x2]] w (TrueN w) := by
  have T0 : Touch w (w.alloc (.cells #[.int .u8 x0, .int .u8 x1, .int .u8 x2] 38)) [] := (Touch.refl w []).alloc _
  have hE0 : (w.alloc (.cells #[.int .u8 x0, .int .u8 x1, .int .u8 x2] 38)).heap[w.heap.size]? = some (.cells #[.int .u8 x0, .int .u8 x1, .int .u8 x2] 38 (0, 0)) := heap_alloc_new w _
  have hf := few_any (SRow.keep hr T0 (by simp)) hc
  have hrow := few_row (SRow.keep hr T0 (by simp))
  have hwf' := few_wf hwf
  have hlen := few_len l
  have HRI : Hid (∀ W, Touch (w.alloc (.cells #[.int .u8 x0, .int .u8 x1, .int .u8 x2] 38)) W [] → _) := fun W t => right_of (SRow.keep hrow t (by simp)) (by omega) hwf'
  have HBE : Hid (∀ a b W, Touch (w.alloc (.cells #[.int .u8 x0, .int .u8 x1, .int .u8 x2] 38)) W [] → _) := fun a b W t => before_any (SRow.keep hrow t (by simp)) (by omega) a b
  have HT0 : Hid _ := T0
  have HE0 : Hid _ := hE0
  clear hr hc hwf hrow hwf' T0 hE0
  generalize l.length = N at *
  generalize hm : l.take 60 = m at *
  generalize hml : m.length = n at *
  clear hm
  go_enter Try.func5, Try.ntmps5
  go_wp2_with fail
  refine hf.mono ?_
  rintro e w1 ⟨rfl, rfl⟩
  clear hf
  have hri := HRI.out _ (Touch.refl _ _)
  clear HRI
  go_wp2_with fail
  refine hri.mono ?_
  rintro e w1 ⟨rfl, t1⟩
  clear hri
  cases hq : rightS m with
  | false =>
    go_wp2_with fail
    refine (hlive_any w1).mono ?_
    rintro e w2 ⟨rfl, t2⟩
    go_wp2
    go_ret
    exact ⟨rfl, (HT0.out.trans t1 (by simp)).trans t2 (by simp)⟩
  | true =>
    obtain ⟨M, hM⟩ := right_run hq
    have q0 := bef_self hM x0
    have q1 := fun h => bef_anti hM (a := x0) (b := x1) h
    have q2 := fun h1 h2 => bef_trans hM (a := x0) (b := x1) (c := x2) h1 h2
    have Q1 : Hid _ := q1
    have Q2 : Hid _ := q2
    have Q0 : Hid _ := q0
    have hb := (t1.block _ (lt_of_heap HE0.out) (by simp)).trans HE0.out
    have m0 : w1.cell? ⟨w.heap.size, 0, none⟩ = some (.int .u8 x0) := by simp [World.cell?, hb]
    have m1 : w1.cell? ⟨w.heap.size, 1, none⟩ = some (.int .u8 x1) := by simp [World.cell?, hb]
    have m2 : w1.cell? ⟨w.heap.size, 2, none⟩ = some (.int .u8 x2) := by simp [World.cell?, hb]
    clear q0 q1 q2 hM hb hq
    go_wp2_with fail
    go_quiet (fail)
    have t2 : Touch _ (w1.drewN nq) [] := t1.drewN nq
    generalize w1.drewN nq = w2 at *
    have hp := HBE.out x0 x0 w2 t2
    rw [Q0.out] at hp
    clear Q0 t1 m0 m1 m2
    go_wp2_with fail
    refine hp.mono ?_
    rintro e w3 ⟨rfl, t3⟩
    have t03 := t2.trans t3 (by simp)
    have hp1 := HBE.out x0 x1 w3 t03
    clear hp t2
    cases hq1 : befS x0 x1 false m with
    | false =>
      rw [hq1] at hp1
      have HB2 : Hid _ := HBE.out x0 x1
      have HQ : Hid _ := hq1
      clear hq1
      go_wp2_with fail
      refine hp1.mono ?_
      rintro e w4 ⟨rfl, t4⟩
      have t04 := t03.trans t4 (by simp)
      clear hp1
      go_wp2_with fail
      refine (hlive_any w4).mono ?_
      rintro e w5 ⟨rfl, t5⟩
      have t05 := t04.trans t5 (by simp)
      have hp2 := HB2.out w5 t05
      rw [HQ.out] at hp2
      go_wp2_with fail
      refine hp2.mono ?_
      rintro e w6 ⟨rfl, t6⟩
      clear hp2
      go_wp2
      go_ret
      exact ⟨by simp, HT0.out.trans (t05.trans t6 (by simp)) (by simp)⟩
    | true =>
      rw [hq1] at hp1
      have hr1 := Q1.out hq1
      have HB2 : Hid _ := HBE.out x0 x1
      have HQ : Hid _ := hq1
      have hq2 := Q2.out hq1
      have HQ2 : Hid _ := hq2
      have HR1 : Hid _ := hr1
      clear hq1 hr1 hq2 Q1 Q2
      go_wp2_with fail
      refine hp1.mono ?_
      rintro e w4 ⟨rfl, t4⟩
      have t04 := t03.trans t4 (by simp)
      have hp2 := HBE.out x1 x0 w4 t04
      rw [HR1.out] at hp2
      clear hp1
      go_wp2_with fail
      refine hp2.mono ?_
      rintro e w5 ⟨rfl, t5⟩
      have t05 := t04.trans t5 (by simp)
      clear hp2
      go_wp2_with fail
      refine (hlive_any w5).mono ?_
      rintro e w6 ⟨rfl, t6⟩
      have t06 := t05.trans t6 (by simp)
      have hp3 := HB2.out w6 t06
      rw [HQ.out] at hp3
      go_wp2_with fail
      refine hp3.mono ?_
      rintro e w7 ⟨rfl, t7⟩
      have t07 := t06.trans t7 (by simp)
      have hp4 := HBE.out x1 x2 w7 t07
      clear hp3
      cases hq3 : befS x1 x2 false m with
      | false =>
        rw [hq3] at hp4
        clear hq3
        go_wp2_with fail
        refine hp4.mono ?_
        rintro e w8 ⟨rfl, t8⟩
        clear hp4
        go_wp2
        go_ret
        exact ⟨by simp, HT0.out.trans (t07.trans t8 (by simp)) (by simp)⟩
      | true =>
        rw [hq3] at hp4
        have hq4 := HQ2.out hq3
        have HQ4 : Hid _ := hq4
        clear hq3 hq4
        go_wp2_with fail
        refine hp4.mono ?_
        rintro e w8 ⟨rfl, t8⟩
        have t08 := t07.trans t8 (by simp)
        have hp5 := HBE.out x0 x2 w8 t08
        rw [HQ4.out] at hp5
        clear hp4
        go_wp2_with fail
        refine hp5.mono ?_
        rintro e w9 ⟨rfl, t9⟩
        clear hp5
        go_wp2
        go_ret
        exact ⟨by simp, HT0.out.trans (t08.trans t9 (by simp)) (by simp)⟩

end Go.Proofs.Ytganlfgalcoepaa
