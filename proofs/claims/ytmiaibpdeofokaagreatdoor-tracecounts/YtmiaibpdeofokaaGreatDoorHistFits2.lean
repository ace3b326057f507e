/-
  THE DOCUMENT's package rowlockref08: fits BY ITS CONTRACT (an event with a value).
-/
import Derived.Test.YtmiaibpdeofokaaGreatDoorHistRefLog
namespace Go.Proofs.YtmiaibpdeofokaaGreatDoor
set_option linter.unusedVariables false
set_option linter.unusedSimpArgs false
open Go.RowKit Go.Maps Go.Shelf
attribute [local go_sem] Oper.semAt_some

set_option maxRecDepth 100000 in
set_option maxHeartbeats 8000000 in
theorem fits_val {w : World} {g off cap i N : Nat} {k a t v : Int} {b1 b7 b8 b9 : Bool} {Fs : List Fr} {res : Bool} (hN : N ≤ 1000) (hi : i < N) (hg : g < w.heap.size) (m0 : w.cell? ⟨g, off + i * 4, none⟩ = some (.int .u8 k)) (m1 : w.cell? ⟨g, off + i * 4 + 1, none⟩ = some (.int .i64 a)) (m2 : w.cell? ⟨g, off + i * 4 + 2, none⟩ = some (.int .i64 t)) (m3 : w.cell? ⟨g, off + i * 4 + 3, none⟩ = some (.int .u64 v)) (HWE : Hid (EvD.Wf ⟨k, a, t, v⟩))
    (S1 : Hid (Calls Tryz.prog 62 #[.slice (some ⟨g, off, none⟩) N cap, .int .i64 i, .int .i64 a, .int .u8 1] (w.alloc (EvD.obj ⟨k, a, t, v⟩)) fun x w' => x = .returned (.bool b1) ∧ (w.alloc (EvD.obj ⟨k, a, t, v⟩)) = w'))
    (S7 : Hid (Calls Tryz.prog 62 #[.slice (some ⟨g, off, none⟩) N cap, .int .i64 i, .int .i64 a, .int .u8 7] (w.alloc (EvD.obj ⟨k, a, t, v⟩)) fun x w' => x = .returned (.bool b7) ∧ (w.alloc (EvD.obj ⟨k, a, t, v⟩)) = w'))
    (S8 : Hid (Calls Tryz.prog 62 #[.slice (some ⟨g, off, none⟩) N cap, .int .i64 i, .int .i64 a, .int .u8 8] (w.alloc (EvD.obj ⟨k, a, t, v⟩)) fun x w' => x = .returned (.bool b8) ∧ (w.alloc (EvD.obj ⟨k, a, t, v⟩)) = w'))
    (S9 : Hid (Calls Tryz.prog 62 #[.slice (some ⟨g, off, none⟩) N cap, .int .i64 i, .int .i64 a, .int .u8 9] (w.alloc (EvD.obj ⟨k, a, t, v⟩)) fun x w' => x = .returned (.bool b9) ∧ (w.alloc (EvD.obj ⟨k, a, t, v⟩)) = w'))
    (HO : Hid (Calls Tryz.prog 78 #[.slice (some ⟨g, off, none⟩) N cap, .int .i64 i, .int .i64 a] (w.alloc (EvD.obj ⟨k, a, t, v⟩)) fun x w' => ∃ b vl, x = .returned (ptr b) ∧ RLog (w.alloc (EvD.obj ⟨k, a, t, v⟩)).heap.size w' b vl Fs.reverse ∧ Touch (w.alloc (EvD.obj ⟨k, a, t, v⟩)) w' []))
    (HRES : Hid (res = fitQ ⟨k, a, t, v⟩ b1 b7 (b8 || b9) Fs)) (ha0 : 0 ≤ a) (ha1 : a < 64) (ht0 : t = 0) (hv0 : ¬ v = 0) :
    Calls Tryz.prog 50 #[.slice (some ⟨g, off, none⟩) N cap, .int .i64 i] w fun x w' => x = .returned (.bool res) ∧ Touch w w' [] := by
  have HT0 : Hid (Touch w (w.alloc (EvD.obj ⟨k, a, t, v⟩)) []) := (Touch.refl w []).alloc _
  have hil : (i : Int) < N := by omega
  have HKP : Hid (∀ w', Touch (w.alloc (EvD.obj ⟨k, a, t, v⟩)) w' [] → (w'.cell? ⟨w.heap.size, 0, none⟩ = some (.int .u8 k) ∧ w'.cell? ⟨w.heap.size, 1, none⟩ = some (.int .i64 a) ∧ w'.cell? ⟨w.heap.size, 2, none⟩ = some (.int .i64 t) ∧ w'.cell? ⟨w.heap.size, 3, none⟩ = some (.int .u64 v))) := fun w' T => by
    have hE0 : (w.alloc (EvD.obj ⟨k, a, t, v⟩)).heap[w.heap.size]? = some (EvD.obj ⟨k, a, t, v⟩) := heap_alloc_new w _
    have hb := (T.block _ (lt_of_heap hE0) (by simp)).trans hE0
    simp [World.cell?, hb, EvD.obj]
  have HAR : Hid (0 ≤ a ∧ a < 64) := ⟨ha0, ha1⟩
  subst ht0
  have hv : (v == 0) = false := by simpa using hv0
  have HB : Hid (bareS ⟨k, a, 0, v⟩ = false) := by show _ = _; unfold bareS; simp [hv0]
  go_enter Tryz.func50, Tryz.ntmps50
  go_wp2_with fail
  clear m0 m1 m2 m3 hil
  refine S1.out.mono ?_
  rintro x w1 ⟨rfl, rfl⟩
  clear S1
  go_wp2_with fail
  refine S7.out.mono ?_
  rintro x w1 ⟨rfl, rfl⟩
  clear S7
  cases b8 with
  | true =>
    go_wp2_with fail
    refine S8.out.mono ?_
    rintro x w1 ⟨rfl, rfl⟩
    clear S8
    by_cases k1 : k = 1
    · subst k1
      go_wp2
      go_ret
      exact ⟨by rw [HRES.out]; unfold fitQ; rw [if_pos HAR.out, HB.out]; simp, HT0.out⟩
    · have p1 : (k == 1) = false := by simpa using k1
      cases b1 with
      | false =>
        go_wp2
        go_ret
        exact ⟨by rw [HRES.out]; unfold fitQ; rw [if_pos HAR.out]; simp [k1], HT0.out⟩
      | true =>
        go_wp2
        go_ret
        exact ⟨by rw [HRES.out]; unfold fitQ; rw [if_pos HAR.out]; simp [k1], HT0.out⟩
  | false =>
    go_wp2_with fail
    refine S8.out.mono ?_
    rintro x w1 ⟨rfl, rfl⟩
    clear S8
    go_wp2_with fail
    refine S9.out.mono ?_
    rintro x w1 ⟨rfl, rfl⟩
    clear S9
    by_cases k1 : k = 1
    · subst k1
      go_wp2
      go_ret
      exact ⟨by rw [HRES.out]; unfold fitQ; rw [if_pos HAR.out, HB.out]; simp, HT0.out⟩
    · have p1 : (k == 1) = false := by simpa using k1
      cases b1 with
      | false =>
        go_wp2
        go_ret
        exact ⟨by rw [HRES.out]; unfold fitQ; rw [if_pos HAR.out]; simp [k1], HT0.out⟩
      | true =>
        cases b9 with
        | true =>
          go_wp2
          go_ret
          exact ⟨by rw [HRES.out]; unfold fitQ; rw [if_pos HAR.out]; simp [k1], HT0.out⟩
        | false =>
          have hrs : res = if k = 8 then false && b7 else if k = 9 then false else if k = 2 then !b7 && (decide (0 ≤ 0) && decide (0 < 12) && rightB v) else if k = 3 then !b7 && decide ((noteS Fs ⟨k, a, 0, v⟩).1 = 0) else if k = 4 ∨ k = 5 ∨ k = 6 then !b7 && false && decide ((noteS Fs ⟨k, a, 0, v⟩).1 = 0) else if k = 7 then !b7 && false && decide (Fs.length - 1 = 0) else false := by
            rw [HRES.out]; unfold fitQ; rw [if_pos HAR.out, HB.out]; simp [k1]
          have HRS : Hid _ := hrs
          clear hrs HRES
          go_wp2_with fail
          refine HO.out.mono ?_
          rintro x w2 ⟨b, vl, rfl, hL, t2⟩
          obtain ⟨q0, q1, q2, q3⟩ := HKP.out w2 t2
          have HL : Hid (RLog (w.alloc (EvD.obj ⟨k, a, 0, v⟩)).heap.size w2 b vl Fs.reverse) := hL
          have HT2 : Hid (Touch w w2 []) := HT0.out.trans t2 (by simp)
          have HFT : Hid (∀ x ∈ rfoot b vl, w.heap.size ≤ x) := fun x hx => Nat.le_trans HT0.out.size (hL.foot_lt x hx).1
          have hpos : 0 < Fs.length := by have := hL.pos; simpa using this
          clear hL t2 HO HKP
          by_cases k8 : k = 8
          · subst k8
            go_wp2
            go_ret
            exact ⟨by rw [HRS.out]; simp, HT2.out⟩
          · have p8 : (k == 8) = false := by simpa using k8
            by_cases k9 : k = 9
            · subst k9
              go_wp2
              go_ret
              exact ⟨by rw [HRS.out]; simp, HT2.out⟩
            · have p9 : (k == 9) = false := by simpa using k9
              by_cases k2 : k = 2
              · subst k2
                cases b7 with
                | true =>
                  go_wp2
                  go_ret
                  exact ⟨by rw [HRS.out]; simp, HT2.out⟩
                | false =>
                  go_wp2_with fail
                  refine (rright_any v HWE.out.v _).mono ?_
                  rintro x w3 ⟨rfl, rfl⟩
                  go_wp2
                  go_ret
                  exact ⟨by rw [HRS.out]; simp, HT2.out⟩
              · have p2 : (k == 2) = false := by simpa using k2
                by_cases k3 : k = 3
                · subst k3
                  cases b7 with
                  | true =>
                    go_wp2
                    go_ret
                    exact ⟨by rw [HRS.out]; simp, HT2.out⟩
                  | false =>
                    have c := ract_any HL.out ⟨3, a, 0, v⟩ HWE.out
                    have HRS2 : Hid (res = decide ((noteS Fs ⟨3, a, 0, v⟩).1 = 0)) := by show _ = _; rw [HRS.out]; simp
                    generalize noteS Fs ⟨3, a, 0, v⟩ = ns at *
                    clear HRS
                    go_wp2_with fail
                    refine c.mono ?_
                    rintro x w3 ⟨vl', rfl, _, t3, _⟩
                    have HT3 : Hid (Touch w w3 []) := HT2.out.trans t3 (fun x hx => .inr (HFT.out x hx))
                    clear c t3
                    go_wp2
                    go_ret
                    exact ⟨by rw [HRS2.out]; simp [beq_eq_decide], HT3.out⟩
                · have p3 : (k == 3) = false := by simpa using k3
                  by_cases k456 : k = 4 ∨ k = 5 ∨ k = 6
                  · rcases k456 with rfl | rfl | rfl
                    all_goals
                      cases b7 with
                      | true =>
                        go_wp2
                        go_ret
                        exact ⟨by rw [HRS.out]; simp, HT2.out⟩
                      | false =>
                        go_wp2
                        go_ret
                        exact ⟨by rw [HRS.out]; simp, HT2.out⟩
                  · have p4 : (k == 4) = false := by simp; omega
                    have p5 : (k == 5) = false := by simp; omega
                    have p6 : (k == 6) = false := by simp; omega
                    by_cases k7 : k = 7
                    · subst k7
                      cases b7 with
                      | true =>
                        go_wp2
                        go_ret
                        exact ⟨by rw [HRS.out]; simp, HT2.out⟩
                      | false =>
                        go_wp2
                        go_ret
                        exact ⟨by rw [HRS.out]; simp, HT2.out⟩
                    · have p7 : (k == 7) = false := by simpa using k7
                      go_wp2
                      go_ret
                      exact ⟨by rw [HRS.out]; simp [k8, k9, k2, k3, k456, k7], HT2.out⟩


end Go.Proofs.YtmiaibpdeofokaaGreatDoor
