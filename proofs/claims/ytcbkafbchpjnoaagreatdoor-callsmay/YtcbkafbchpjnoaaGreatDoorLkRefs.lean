/-
  THE DOCUMENT's Lock, Unlock, Down, Up BY THEIR CONTRACTS. Written by mklk2.py.
-/
import Derived.Test.YtcbkafbchpjnoaaGreatDoorLkCalls
namespace Go.Proofs.YtcbkafbchpjnoaaGreatDoor
set_option linter.unusedVariables false
set_option linter.unusedSimpArgs false
open Go.RowKit
attribute [local go_sem] Oper.semAt_some

theorem lock_body (t u : Int) : bodyL (lockB t u) = [insO 21 6, insO 4 t, insO 20 4, insO 26 0, insP (1 + u), insO 5 t, insO 22 0] := by simp [bodyL, lockB]
set_option maxRecDepth 100000 in
set_option maxHeartbeats 1000000 in
theorem rlock_any (a t u : Int) (w : World) : Calls Tryz.prog 56 #[.int .i64 a, .int .i64 t, .int .i64 u] w (LkP w (lockE a t u) (blkL a (lockB t u))) := by
  have HE : Hid (lockE a t u = if mayP a t u then blkE a (lockB t u) else 2) := rfl
  have HMAY : HidC _ _ _ _ _ := ⟨rmay_any a t u w⟩
  have HBB : Hid (mayP a t u = true → ∀ W : World, HidC Tryz.prog 97 #[.int .i64 a, .slice (some ⟨W.heap.size, 0, none⟩) 7 7] (W.alloc (.cells #[.int .u8 21, .int .i64 6, .int .u64 0, .int .u8 4, .int .i64 t, .int .u64 0, .int .u8 20, .int .i64 4, .int .u64 0, .int .u8 26, .int .i64 0, .int .u64 0, .int .u8 1, .int .i64 0, .int .u64 (numV (1 + u)), .int .u8 5, .int .i64 t, .int .u64 0, .int .u8 22, .int .i64 0, .int .u64 0] 78)) (LkP (W.alloc (.cells #[.int .u8 21, .int .i64 6, .int .u64 0, .int .u8 4, .int .i64 t, .int .u64 0, .int .u8 20, .int .i64 4, .int .u64 0, .int .u8 26, .int .i64 0, .int .u64 0, .int .u8 1, .int .i64 0, .int .u64 (numV (1 + u)), .int .u8 5, .int .i64 t, .int .u64 0, .int .u8 22, .int .i64 0, .int .u64 0] 78)) (blkE a (lockB t u)) (blkL a (lockB t u)))) := by
    intro hm W
    unfold mayP at hm
    simp only [Bool.and_eq_true, decide_eq_true_eq] at hm
    have hin := lock_in t u (by omega) (by omega) (by omega) (by omega)
    have hall : ∀ i ∈ bodyL (lockB t u), i.Wf ∧ (0 ≤ i.arg ∧ i.arg ≤ 1000) ∧ i.op ≠ 23 ∧ i.op ≠ 24 := by
      intro i hi
      unfold bodyL at hi
      rcases List.mem_cons.1 hi with rfl | hi
      · exact ⟨insO_wf (by omega) (by omega) (by simp [lockB]) (by simp [lockB]), by unfold insO; simp [lockB], by unfold insO; simp, by unfold insO; simp⟩
      · rcases List.mem_append.1 hi with hi | hi
        · exact hin i hi
        · rw [List.mem_singleton.1 hi]; exact ⟨insO_wf (by omega) (by omega) (by omega) (by omega), by unfold insO; simp, by unfold insO; simp, by unfold insO; simp⟩
    have hi := ins_lit W (bodyL (lockB t u)) #[.int .u8 21, .int .i64 6, .int .u64 0, .int .u8 4, .int .i64 t, .int .u64 0, .int .u8 20, .int .i64 4, .int .u64 0, .int .u8 26, .int .i64 0, .int .u64 0, .int .u8 1, .int .i64 0, .int .u64 (numV (1 + u)), .int .u8 5, .int .i64 t, .int .u64 0, .int .u8 22, .int .i64 0, .int .u64 0] (by rw [lock_body]; rfl) (fun i hi => (hall i hi).1) (by rw [lock_body]; simp)
    refine ⟨?_⟩
    have := rat_any (a := a) (by omega) (by omega) hi (by rw [lock_body]; simp) (fun i hi => (hall i hi).2)
    have hl : (bodyL (lockB t u)).length = 7 := by rw [lock_body]; rfl
    unfold blkE blkL
    rw [hl] at this ⊢
    exact this
  generalize hRL : blkL a (lockB t u) = RL at *
  generalize hEE : lockE a t u = E at *
  generalize hE2 : blkE a (lockB t u) = E2 at *
  clear hRL hEE hE2
  cases hm : mayP a t u with
  | false =>
    rw [hm] at HMAY
    have HE2 : Hid (E = 2) := by show _ = _; rw [HE.out, hm]; rfl
    clear HE HBB hm
    go_enter Tryz.func56, Tryz.ntmps56
    go_wp2_with fail
    refine HMAY.out.mono ?_
    rintro e w' ⟨rfl, rfl⟩
    go_wp2
    refine bodyPost_ret (v := .tuple #[.slice none 0 0, .int .i64 2]) (by simp [results, Tryz.results56, go_sem]) rfl ?_
    exact .inr ⟨by rw [HE2.out]; omega, by rw [HE2.out], Touch.refl _ _⟩
  | true =>
    rw [hm] at HMAY
    have HE2 : Hid (E = E2) := by show _ = _; rw [HE.out, hm]; rfl
    have HB1 : Hid _ := HBB.out hm
    unfold mayP at hm
    simp only [Bool.and_eq_true, decide_eq_true_eq] at hm
    have hwr : IntKind.i64.wrap (1 + u) = 1 + u := by rw [IntKind.wrap_i64]; omega
    have Q2 : Hid _ := hm
    clear HE HBB hm
    go_enter Tryz.func56, Tryz.ntmps56
    go_wp2_with fail
    refine HMAY.out.mono ?_
    rintro e w' ⟨rfl, rfl⟩
    have HT0 : Hid (Touch w w []) := Touch.refl _ _
    go_wp2_with fail
    refine (rO_any _ _ _).mono ?_
    rintro e w1 ⟨rfl, s1⟩
    have HT1 : Hid (Touch w w1 []) := HT0.out.trans s1 (by simp)
    clear s1
    go_wp2_with fail
    refine (rO_any _ _ _).mono ?_
    rintro e w2 ⟨rfl, s2⟩
    have HT2 : Hid (Touch w w2 []) := HT1.out.trans s2 (by simp)
    clear s2
    go_wp2_with fail
    refine (rO_any _ _ _).mono ?_
    rintro e w3 ⟨rfl, s3⟩
    have HT3 : Hid (Touch w w3 []) := HT2.out.trans s3 (by simp)
    clear s3
    go_wp2_with fail
    refine (rO_any _ _ _).mono ?_
    rintro e w4 ⟨rfl, s4⟩
    have HT4 : Hid (Touch w w4 []) := HT3.out.trans s4 (by simp)
    clear s4
    go_wp2_with fail
    refine (rP_any _ (by have := Q2.out; omega) (by have := Q2.out; omega) _).mono ?_
    rintro e w5 ⟨rfl, s5⟩
    have HT5 : Hid (Touch w w5 []) := HT4.out.trans s5 (by simp)
    clear s5
    go_wp2_with fail
    refine (rO_any _ _ _).mono ?_
    rintro e w6 ⟨rfl, s6⟩
    have HT6 : Hid (Touch w w6 []) := HT5.out.trans s6 (by simp)
    clear s6
    go_wp2_with fail
    refine (rO_any _ _ _).mono ?_
    rintro e w7 ⟨rfl, s7⟩
    have HT7 : Hid (Touch w w7 []) := HT6.out.trans s7 (by simp)
    clear s7
    have HG : HidC _ _ _ _ _ := HB1.out w7
    go_wp2_with fail
    refine HG.out.mono ?_
    intro e w99 h9
    have h9' : LkP w E2 RL e w99 := LkP.up (HT7.out.alloc _) h9
    clear h9 HG HB1
    rcases h9' with ⟨he, ao, cap, rfl, hin, t9⟩ | ⟨he, rfl, t9⟩
    · have HIn : Hid _ := hin
      have HT99 : Hid _ := t9
      have HE9 : Hid _ := he
      obtain ⟨n9, hn9⟩ : ∃ n9, n9 = RL.length := ⟨_, rfl⟩
      have HN9 : Hid _ := hn9
      rw [← hn9]
      clear hin t9 he hn9
      go_wp2
      refine bodyPost_ret (v := .tuple #[.slice ao n9 cap, .int .i64 0]) (by simp [results, Tryz.results56, go_sem]) rfl ?_
      exact .inl ⟨by rw [HE2.out]; exact HE9.out, ao, cap, by rw [HN9.out], HIn.out, HT99.out⟩
    · have HT99 : Hid _ := t9
      have HE9 : Hid _ := he
      clear t9 he
      go_wp2
      refine bodyPost_ret (v := .tuple #[.slice none 0 0, .int .i64 E2]) (by simp [results, Tryz.results56, go_sem]) rfl ?_
      exact .inr ⟨by rw [HE2.out]; exact HE9.out, by rw [HE2.out], HT99.out⟩

theorem unlock_body (t u : Int) : bodyL (unlockB t u) = [insO 21 10, insO 4 t, insP (1 + u), insO 14 0, insO 20 9, insP (0), insO 5 t, insP (1), insO 19 10, insP (0), insO 22 0] := by simp [bodyL, unlockB]
set_option maxRecDepth 100000 in
set_option maxHeartbeats 1000000 in
theorem runlock_any (a t u : Int) (w : World) : Calls Tryz.prog 57 #[.int .i64 a, .int .i64 t, .int .i64 u] w (LkP w (unlockE a t u) (blkL a (unlockB t u))) := by
  have HE : Hid (unlockE a t u = if mayP a t u then blkE a (unlockB t u) else 2) := rfl
  have HMAY : HidC _ _ _ _ _ := ⟨rmay_any a t u w⟩
  have HBB : Hid (mayP a t u = true → ∀ W : World, HidC Tryz.prog 97 #[.int .i64 a, .slice (some ⟨W.heap.size, 0, none⟩) 11 11] (W.alloc (.cells #[.int .u8 21, .int .i64 10, .int .u64 0, .int .u8 4, .int .i64 t, .int .u64 0, .int .u8 1, .int .i64 0, .int .u64 (numV (1 + u)), .int .u8 14, .int .i64 0, .int .u64 0, .int .u8 20, .int .i64 9, .int .u64 0, .int .u8 1, .int .i64 0, .int .u64 (numV (0)), .int .u8 5, .int .i64 t, .int .u64 0, .int .u8 1, .int .i64 0, .int .u64 (numV (1)), .int .u8 19, .int .i64 10, .int .u64 0, .int .u8 1, .int .i64 0, .int .u64 (numV (0)), .int .u8 22, .int .i64 0, .int .u64 0] 78)) (LkP (W.alloc (.cells #[.int .u8 21, .int .i64 10, .int .u64 0, .int .u8 4, .int .i64 t, .int .u64 0, .int .u8 1, .int .i64 0, .int .u64 (numV (1 + u)), .int .u8 14, .int .i64 0, .int .u64 0, .int .u8 20, .int .i64 9, .int .u64 0, .int .u8 1, .int .i64 0, .int .u64 (numV (0)), .int .u8 5, .int .i64 t, .int .u64 0, .int .u8 1, .int .i64 0, .int .u64 (numV (1)), .int .u8 19, .int .i64 10, .int .u64 0, .int .u8 1, .int .i64 0, .int .u64 (numV (0)), .int .u8 22, .int .i64 0, .int .u64 0] 78)) (blkE a (unlockB t u)) (blkL a (unlockB t u)))) := by
    intro hm W
    unfold mayP at hm
    simp only [Bool.and_eq_true, decide_eq_true_eq] at hm
    have hin := unlock_in t u (by omega) (by omega) (by omega) (by omega)
    have hall : ∀ i ∈ bodyL (unlockB t u), i.Wf ∧ (0 ≤ i.arg ∧ i.arg ≤ 1000) ∧ i.op ≠ 23 ∧ i.op ≠ 24 := by
      intro i hi
      unfold bodyL at hi
      rcases List.mem_cons.1 hi with rfl | hi
      · exact ⟨insO_wf (by omega) (by omega) (by simp [unlockB]) (by simp [unlockB]), by unfold insO; simp [unlockB], by unfold insO; simp, by unfold insO; simp⟩
      · rcases List.mem_append.1 hi with hi | hi
        · exact hin i hi
        · rw [List.mem_singleton.1 hi]; exact ⟨insO_wf (by omega) (by omega) (by omega) (by omega), by unfold insO; simp, by unfold insO; simp, by unfold insO; simp⟩
    have hi := ins_lit W (bodyL (unlockB t u)) #[.int .u8 21, .int .i64 10, .int .u64 0, .int .u8 4, .int .i64 t, .int .u64 0, .int .u8 1, .int .i64 0, .int .u64 (numV (1 + u)), .int .u8 14, .int .i64 0, .int .u64 0, .int .u8 20, .int .i64 9, .int .u64 0, .int .u8 1, .int .i64 0, .int .u64 (numV (0)), .int .u8 5, .int .i64 t, .int .u64 0, .int .u8 1, .int .i64 0, .int .u64 (numV (1)), .int .u8 19, .int .i64 10, .int .u64 0, .int .u8 1, .int .i64 0, .int .u64 (numV (0)), .int .u8 22, .int .i64 0, .int .u64 0] (by rw [unlock_body]; rfl) (fun i hi => (hall i hi).1) (by rw [unlock_body]; simp)
    refine ⟨?_⟩
    have := rat_any (a := a) (by omega) (by omega) hi (by rw [unlock_body]; simp) (fun i hi => (hall i hi).2)
    have hl : (bodyL (unlockB t u)).length = 11 := by rw [unlock_body]; rfl
    unfold blkE blkL
    rw [hl] at this ⊢
    exact this
  generalize hRL : blkL a (unlockB t u) = RL at *
  generalize hEE : unlockE a t u = E at *
  generalize hE2 : blkE a (unlockB t u) = E2 at *
  clear hRL hEE hE2
  cases hm : mayP a t u with
  | false =>
    rw [hm] at HMAY
    have HE2 : Hid (E = 2) := by show _ = _; rw [HE.out, hm]; rfl
    clear HE HBB hm
    go_enter Tryz.func57, Tryz.ntmps57
    go_wp2_with fail
    refine HMAY.out.mono ?_
    rintro e w' ⟨rfl, rfl⟩
    go_wp2
    refine bodyPost_ret (v := .tuple #[.slice none 0 0, .int .i64 2]) (by simp [results, Tryz.results57, go_sem]) rfl ?_
    exact .inr ⟨by rw [HE2.out]; omega, by rw [HE2.out], Touch.refl _ _⟩
  | true =>
    rw [hm] at HMAY
    have HE2 : Hid (E = E2) := by show _ = _; rw [HE.out, hm]; rfl
    have HB1 : Hid _ := HBB.out hm
    unfold mayP at hm
    simp only [Bool.and_eq_true, decide_eq_true_eq] at hm
    have hwr : IntKind.i64.wrap (1 + u) = 1 + u := by rw [IntKind.wrap_i64]; omega
    have Q2 : Hid _ := hm
    clear HE HBB hm
    go_enter Tryz.func57, Tryz.ntmps57
    go_wp2_with fail
    refine HMAY.out.mono ?_
    rintro e w' ⟨rfl, rfl⟩
    have HT0 : Hid (Touch w w []) := Touch.refl _ _
    go_wp2_with fail
    refine (rO_any _ _ _).mono ?_
    rintro e w1 ⟨rfl, s1⟩
    have HT1 : Hid (Touch w w1 []) := HT0.out.trans s1 (by simp)
    clear s1
    go_wp2_with fail
    refine (rO_any _ _ _).mono ?_
    rintro e w2 ⟨rfl, s2⟩
    have HT2 : Hid (Touch w w2 []) := HT1.out.trans s2 (by simp)
    clear s2
    go_wp2_with fail
    refine (rP_any _ (by have := Q2.out; omega) (by have := Q2.out; omega) _).mono ?_
    rintro e w3 ⟨rfl, s3⟩
    have HT3 : Hid (Touch w w3 []) := HT2.out.trans s3 (by simp)
    clear s3
    go_wp2_with fail
    refine (rO_any _ _ _).mono ?_
    rintro e w4 ⟨rfl, s4⟩
    have HT4 : Hid (Touch w w4 []) := HT3.out.trans s4 (by simp)
    clear s4
    go_wp2_with fail
    refine (rO_any _ _ _).mono ?_
    rintro e w5 ⟨rfl, s5⟩
    have HT5 : Hid (Touch w w5 []) := HT4.out.trans s5 (by simp)
    clear s5
    go_wp2_with fail
    refine (rP_any _ (by omega) (by omega) _).mono ?_
    rintro e w6 ⟨rfl, s6⟩
    have HT6 : Hid (Touch w w6 []) := HT5.out.trans s6 (by simp)
    clear s6
    go_wp2_with fail
    refine (rO_any _ _ _).mono ?_
    rintro e w7 ⟨rfl, s7⟩
    have HT7 : Hid (Touch w w7 []) := HT6.out.trans s7 (by simp)
    clear s7
    go_wp2_with fail
    refine (rP_any _ (by omega) (by omega) _).mono ?_
    rintro e w8 ⟨rfl, s8⟩
    have HT8 : Hid (Touch w w8 []) := HT7.out.trans s8 (by simp)
    clear s8
    go_wp2_with fail
    refine (rO_any _ _ _).mono ?_
    rintro e w9 ⟨rfl, s9⟩
    have HT9 : Hid (Touch w w9 []) := HT8.out.trans s9 (by simp)
    clear s9
    go_wp2_with fail
    refine (rP_any _ (by omega) (by omega) _).mono ?_
    rintro e w10 ⟨rfl, s10⟩
    have HT10 : Hid (Touch w w10 []) := HT9.out.trans s10 (by simp)
    clear s10
    go_wp2_with fail
    refine (rO_any _ _ _).mono ?_
    rintro e w11 ⟨rfl, s11⟩
    have HT11 : Hid (Touch w w11 []) := HT10.out.trans s11 (by simp)
    clear s11
    have HG : HidC _ _ _ _ _ := HB1.out w11
    go_wp2_with fail
    refine HG.out.mono ?_
    intro e w99 h9
    have h9' : LkP w E2 RL e w99 := LkP.up (HT11.out.alloc _) h9
    clear h9 HG HB1
    rcases h9' with ⟨he, ao, cap, rfl, hin, t9⟩ | ⟨he, rfl, t9⟩
    · have HIn : Hid _ := hin
      have HT99 : Hid _ := t9
      have HE9 : Hid _ := he
      obtain ⟨n9, hn9⟩ : ∃ n9, n9 = RL.length := ⟨_, rfl⟩
      have HN9 : Hid _ := hn9
      rw [← hn9]
      clear hin t9 he hn9
      go_wp2
      refine bodyPost_ret (v := .tuple #[.slice ao n9 cap, .int .i64 0]) (by simp [results, Tryz.results57, go_sem]) rfl ?_
      exact .inl ⟨by rw [HE2.out]; exact HE9.out, ao, cap, by rw [HN9.out], HIn.out, HT99.out⟩
    · have HT99 : Hid _ := t9
      have HE9 : Hid _ := he
      clear t9 he
      go_wp2
      refine bodyPost_ret (v := .tuple #[.slice none 0 0, .int .i64 E2]) (by simp [results, Tryz.results57, go_sem]) rfl ?_
      exact .inr ⟨by rw [HE2.out]; exact HE9.out, by rw [HE2.out], HT99.out⟩

theorem down_body (t : Int) : bodyL (downB t) = [insO 21 9, insO 4 t, insO 16 0, insO 20 8, insP (1), insO 9 0, insO 5 t, insO 19 9, insO 26 0, insO 22 0] := by simp [bodyL, downB]
set_option maxRecDepth 100000 in
set_option maxHeartbeats 1000000 in
theorem rdown_any (a t : Int) (w : World) : Calls Tryz.prog 58 #[.int .i64 a, .int .i64 t] w (LkP w (downE a t) (blkL a (downB t))) := by
  have HE : Hid (downE a t = if mayP a t 0 then blkE a (downB t) else 2) := rfl
  have HMAY : HidC _ _ _ _ _ := ⟨rmay_any a t 0 w⟩
  have HBB : Hid (mayP a t 0 = true → ∀ W : World, HidC Tryz.prog 97 #[.int .i64 a, .slice (some ⟨W.heap.size, 0, none⟩) 10 10] (W.alloc (.cells #[.int .u8 21, .int .i64 9, .int .u64 0, .int .u8 4, .int .i64 t, .int .u64 0, .int .u8 16, .int .i64 0, .int .u64 0, .int .u8 20, .int .i64 8, .int .u64 0, .int .u8 1, .int .i64 0, .int .u64 (numV (1)), .int .u8 9, .int .i64 0, .int .u64 0, .int .u8 5, .int .i64 t, .int .u64 0, .int .u8 19, .int .i64 9, .int .u64 0, .int .u8 26, .int .i64 0, .int .u64 0, .int .u8 22, .int .i64 0, .int .u64 0] 78)) (LkP (W.alloc (.cells #[.int .u8 21, .int .i64 9, .int .u64 0, .int .u8 4, .int .i64 t, .int .u64 0, .int .u8 16, .int .i64 0, .int .u64 0, .int .u8 20, .int .i64 8, .int .u64 0, .int .u8 1, .int .i64 0, .int .u64 (numV (1)), .int .u8 9, .int .i64 0, .int .u64 0, .int .u8 5, .int .i64 t, .int .u64 0, .int .u8 19, .int .i64 9, .int .u64 0, .int .u8 26, .int .i64 0, .int .u64 0, .int .u8 22, .int .i64 0, .int .u64 0] 78)) (blkE a (downB t)) (blkL a (downB t)))) := by
    intro hm W
    unfold mayP at hm
    simp only [Bool.and_eq_true, decide_eq_true_eq] at hm
    have hin := down_in t (by omega) (by omega)
    have hall : ∀ i ∈ bodyL (downB t), i.Wf ∧ (0 ≤ i.arg ∧ i.arg ≤ 1000) ∧ i.op ≠ 23 ∧ i.op ≠ 24 := by
      intro i hi
      unfold bodyL at hi
      rcases List.mem_cons.1 hi with rfl | hi
      · exact ⟨insO_wf (by omega) (by omega) (by simp [downB]) (by simp [downB]), by unfold insO; simp [downB], by unfold insO; simp, by unfold insO; simp⟩
      · rcases List.mem_append.1 hi with hi | hi
        · exact hin i hi
        · rw [List.mem_singleton.1 hi]; exact ⟨insO_wf (by omega) (by omega) (by omega) (by omega), by unfold insO; simp, by unfold insO; simp, by unfold insO; simp⟩
    have hi := ins_lit W (bodyL (downB t)) #[.int .u8 21, .int .i64 9, .int .u64 0, .int .u8 4, .int .i64 t, .int .u64 0, .int .u8 16, .int .i64 0, .int .u64 0, .int .u8 20, .int .i64 8, .int .u64 0, .int .u8 1, .int .i64 0, .int .u64 (numV (1)), .int .u8 9, .int .i64 0, .int .u64 0, .int .u8 5, .int .i64 t, .int .u64 0, .int .u8 19, .int .i64 9, .int .u64 0, .int .u8 26, .int .i64 0, .int .u64 0, .int .u8 22, .int .i64 0, .int .u64 0] (by rw [down_body]; rfl) (fun i hi => (hall i hi).1) (by rw [down_body]; simp)
    refine ⟨?_⟩
    have := rat_any (a := a) (by omega) (by omega) hi (by rw [down_body]; simp) (fun i hi => (hall i hi).2)
    have hl : (bodyL (downB t)).length = 10 := by rw [down_body]; rfl
    unfold blkE blkL
    rw [hl] at this ⊢
    exact this
  generalize hRL : blkL a (downB t) = RL at *
  generalize hEE : downE a t = E at *
  generalize hE2 : blkE a (downB t) = E2 at *
  clear hRL hEE hE2
  cases hm : mayP a t 0 with
  | false =>
    rw [hm] at HMAY
    have HE2 : Hid (E = 2) := by show _ = _; rw [HE.out, hm]; rfl
    clear HE HBB hm
    go_enter Tryz.func58, Tryz.ntmps58
    go_wp2_with fail
    refine HMAY.out.mono ?_
    rintro e w' ⟨rfl, rfl⟩
    go_wp2
    refine bodyPost_ret (v := .tuple #[.slice none 0 0, .int .i64 2]) (by simp [results, Tryz.results58, go_sem]) rfl ?_
    exact .inr ⟨by rw [HE2.out]; omega, by rw [HE2.out], Touch.refl _ _⟩
  | true =>
    rw [hm] at HMAY
    have HE2 : Hid (E = E2) := by show _ = _; rw [HE.out, hm]; rfl
    have HB1 : Hid _ := HBB.out hm
    unfold mayP at hm
    simp only [Bool.and_eq_true, decide_eq_true_eq] at hm
    have Q2 : Hid _ := hm
    clear HE HBB hm
    go_enter Tryz.func58, Tryz.ntmps58
    go_wp2_with fail
    refine HMAY.out.mono ?_
    rintro e w' ⟨rfl, rfl⟩
    have HT0 : Hid (Touch w w []) := Touch.refl _ _
    go_wp2_with fail
    refine (rO_any _ _ _).mono ?_
    rintro e w1 ⟨rfl, s1⟩
    have HT1 : Hid (Touch w w1 []) := HT0.out.trans s1 (by simp)
    clear s1
    go_wp2_with fail
    refine (rO_any _ _ _).mono ?_
    rintro e w2 ⟨rfl, s2⟩
    have HT2 : Hid (Touch w w2 []) := HT1.out.trans s2 (by simp)
    clear s2
    go_wp2_with fail
    refine (rO_any _ _ _).mono ?_
    rintro e w3 ⟨rfl, s3⟩
    have HT3 : Hid (Touch w w3 []) := HT2.out.trans s3 (by simp)
    clear s3
    go_wp2_with fail
    refine (rO_any _ _ _).mono ?_
    rintro e w4 ⟨rfl, s4⟩
    have HT4 : Hid (Touch w w4 []) := HT3.out.trans s4 (by simp)
    clear s4
    go_wp2_with fail
    refine (rP_any _ (by omega) (by omega) _).mono ?_
    rintro e w5 ⟨rfl, s5⟩
    have HT5 : Hid (Touch w w5 []) := HT4.out.trans s5 (by simp)
    clear s5
    go_wp2_with fail
    refine (rO_any _ _ _).mono ?_
    rintro e w6 ⟨rfl, s6⟩
    have HT6 : Hid (Touch w w6 []) := HT5.out.trans s6 (by simp)
    clear s6
    go_wp2_with fail
    refine (rO_any _ _ _).mono ?_
    rintro e w7 ⟨rfl, s7⟩
    have HT7 : Hid (Touch w w7 []) := HT6.out.trans s7 (by simp)
    clear s7
    go_wp2_with fail
    refine (rO_any _ _ _).mono ?_
    rintro e w8 ⟨rfl, s8⟩
    have HT8 : Hid (Touch w w8 []) := HT7.out.trans s8 (by simp)
    clear s8
    go_wp2_with fail
    refine (rO_any _ _ _).mono ?_
    rintro e w9 ⟨rfl, s9⟩
    have HT9 : Hid (Touch w w9 []) := HT8.out.trans s9 (by simp)
    clear s9
    go_wp2_with fail
    refine (rO_any _ _ _).mono ?_
    rintro e w10 ⟨rfl, s10⟩
    have HT10 : Hid (Touch w w10 []) := HT9.out.trans s10 (by simp)
    clear s10
    have HG : HidC _ _ _ _ _ := HB1.out w10
    go_wp2_with fail
    refine HG.out.mono ?_
    intro e w99 h9
    have h9' : LkP w E2 RL e w99 := LkP.up (HT10.out.alloc _) h9
    clear h9 HG HB1
    rcases h9' with ⟨he, ao, cap, rfl, hin, t9⟩ | ⟨he, rfl, t9⟩
    · have HIn : Hid _ := hin
      have HT99 : Hid _ := t9
      have HE9 : Hid _ := he
      obtain ⟨n9, hn9⟩ : ∃ n9, n9 = RL.length := ⟨_, rfl⟩
      have HN9 : Hid _ := hn9
      rw [← hn9]
      clear hin t9 he hn9
      go_wp2
      refine bodyPost_ret (v := .tuple #[.slice ao n9 cap, .int .i64 0]) (by simp [results, Tryz.results58, go_sem]) rfl ?_
      exact .inl ⟨by rw [HE2.out]; exact HE9.out, ao, cap, by rw [HN9.out], HIn.out, HT99.out⟩
    · have HT99 : Hid _ := t9
      have HE9 : Hid _ := he
      clear t9 he
      go_wp2
      refine bodyPost_ret (v := .tuple #[.slice none 0 0, .int .i64 E2]) (by simp [results, Tryz.results58, go_sem]) rfl ?_
      exact .inr ⟨by rw [HE2.out]; exact HE9.out, by rw [HE2.out], HT99.out⟩

theorem up_body (t : Int) : bodyL (upB t) = [insO 21 5, insO 4 t, insP (1), insO 8 0, insO 5 t, insO 22 0] := by simp [bodyL, upB]
set_option maxRecDepth 100000 in
set_option maxHeartbeats 1000000 in
theorem rup_any (a t : Int) (w : World) : Calls Tryz.prog 59 #[.int .i64 a, .int .i64 t] w (LkP w (upE a t) (blkL a (upB t))) := by
  have HE : Hid (upE a t = if mayP a t 0 then blkE a (upB t) else 2) := rfl
  have HMAY : HidC _ _ _ _ _ := ⟨rmay_any a t 0 w⟩
  have HBB : Hid (mayP a t 0 = true → ∀ W : World, HidC Tryz.prog 97 #[.int .i64 a, .slice (some ⟨W.heap.size, 0, none⟩) 6 6] (W.alloc (.cells #[.int .u8 21, .int .i64 5, .int .u64 0, .int .u8 4, .int .i64 t, .int .u64 0, .int .u8 1, .int .i64 0, .int .u64 (numV (1)), .int .u8 8, .int .i64 0, .int .u64 0, .int .u8 5, .int .i64 t, .int .u64 0, .int .u8 22, .int .i64 0, .int .u64 0] 78)) (LkP (W.alloc (.cells #[.int .u8 21, .int .i64 5, .int .u64 0, .int .u8 4, .int .i64 t, .int .u64 0, .int .u8 1, .int .i64 0, .int .u64 (numV (1)), .int .u8 8, .int .i64 0, .int .u64 0, .int .u8 5, .int .i64 t, .int .u64 0, .int .u8 22, .int .i64 0, .int .u64 0] 78)) (blkE a (upB t)) (blkL a (upB t)))) := by
    intro hm W
    unfold mayP at hm
    simp only [Bool.and_eq_true, decide_eq_true_eq] at hm
    have hin := up_in t (by omega) (by omega)
    have hall : ∀ i ∈ bodyL (upB t), i.Wf ∧ (0 ≤ i.arg ∧ i.arg ≤ 1000) ∧ i.op ≠ 23 ∧ i.op ≠ 24 := by
      intro i hi
      unfold bodyL at hi
      rcases List.mem_cons.1 hi with rfl | hi
      · exact ⟨insO_wf (by omega) (by omega) (by simp [upB]) (by simp [upB]), by unfold insO; simp [upB], by unfold insO; simp, by unfold insO; simp⟩
      · rcases List.mem_append.1 hi with hi | hi
        · exact hin i hi
        · rw [List.mem_singleton.1 hi]; exact ⟨insO_wf (by omega) (by omega) (by omega) (by omega), by unfold insO; simp, by unfold insO; simp, by unfold insO; simp⟩
    have hi := ins_lit W (bodyL (upB t)) #[.int .u8 21, .int .i64 5, .int .u64 0, .int .u8 4, .int .i64 t, .int .u64 0, .int .u8 1, .int .i64 0, .int .u64 (numV (1)), .int .u8 8, .int .i64 0, .int .u64 0, .int .u8 5, .int .i64 t, .int .u64 0, .int .u8 22, .int .i64 0, .int .u64 0] (by rw [up_body]; rfl) (fun i hi => (hall i hi).1) (by rw [up_body]; simp)
    refine ⟨?_⟩
    have := rat_any (a := a) (by omega) (by omega) hi (by rw [up_body]; simp) (fun i hi => (hall i hi).2)
    have hl : (bodyL (upB t)).length = 6 := by rw [up_body]; rfl
    unfold blkE blkL
    rw [hl] at this ⊢
    exact this
  generalize hRL : blkL a (upB t) = RL at *
  generalize hEE : upE a t = E at *
  generalize hE2 : blkE a (upB t) = E2 at *
  clear hRL hEE hE2
  cases hm : mayP a t 0 with
  | false =>
    rw [hm] at HMAY
    have HE2 : Hid (E = 2) := by show _ = _; rw [HE.out, hm]; rfl
    clear HE HBB hm
    go_enter Tryz.func59, Tryz.ntmps59
    go_wp2_with fail
    refine HMAY.out.mono ?_
    rintro e w' ⟨rfl, rfl⟩
    go_wp2
    refine bodyPost_ret (v := .tuple #[.slice none 0 0, .int .i64 2]) (by simp [results, Tryz.results59, go_sem]) rfl ?_
    exact .inr ⟨by rw [HE2.out]; omega, by rw [HE2.out], Touch.refl _ _⟩
  | true =>
    rw [hm] at HMAY
    have HE2 : Hid (E = E2) := by show _ = _; rw [HE.out, hm]; rfl
    have HB1 : Hid _ := HBB.out hm
    unfold mayP at hm
    simp only [Bool.and_eq_true, decide_eq_true_eq] at hm
    have Q2 : Hid _ := hm
    clear HE HBB hm
    go_enter Tryz.func59, Tryz.ntmps59
    go_wp2_with fail
    refine HMAY.out.mono ?_
    rintro e w' ⟨rfl, rfl⟩
    have HT0 : Hid (Touch w w []) := Touch.refl _ _
    go_wp2_with fail
    refine (rO_any _ _ _).mono ?_
    rintro e w1 ⟨rfl, s1⟩
    have HT1 : Hid (Touch w w1 []) := HT0.out.trans s1 (by simp)
    clear s1
    go_wp2_with fail
    refine (rO_any _ _ _).mono ?_
    rintro e w2 ⟨rfl, s2⟩
    have HT2 : Hid (Touch w w2 []) := HT1.out.trans s2 (by simp)
    clear s2
    go_wp2_with fail
    refine (rP_any _ (by omega) (by omega) _).mono ?_
    rintro e w3 ⟨rfl, s3⟩
    have HT3 : Hid (Touch w w3 []) := HT2.out.trans s3 (by simp)
    clear s3
    go_wp2_with fail
    refine (rO_any _ _ _).mono ?_
    rintro e w4 ⟨rfl, s4⟩
    have HT4 : Hid (Touch w w4 []) := HT3.out.trans s4 (by simp)
    clear s4
    go_wp2_with fail
    refine (rO_any _ _ _).mono ?_
    rintro e w5 ⟨rfl, s5⟩
    have HT5 : Hid (Touch w w5 []) := HT4.out.trans s5 (by simp)
    clear s5
    go_wp2_with fail
    refine (rO_any _ _ _).mono ?_
    rintro e w6 ⟨rfl, s6⟩
    have HT6 : Hid (Touch w w6 []) := HT5.out.trans s6 (by simp)
    clear s6
    have HG : HidC _ _ _ _ _ := HB1.out w6
    go_wp2_with fail
    refine HG.out.mono ?_
    intro e w99 h9
    have h9' : LkP w E2 RL e w99 := LkP.up (HT6.out.alloc _) h9
    clear h9 HG HB1
    rcases h9' with ⟨he, ao, cap, rfl, hin, t9⟩ | ⟨he, rfl, t9⟩
    · have HIn : Hid _ := hin
      have HT99 : Hid _ := t9
      have HE9 : Hid _ := he
      obtain ⟨n9, hn9⟩ : ∃ n9, n9 = RL.length := ⟨_, rfl⟩
      have HN9 : Hid _ := hn9
      rw [← hn9]
      clear hin t9 he hn9
      go_wp2
      refine bodyPost_ret (v := .tuple #[.slice ao n9 cap, .int .i64 0]) (by simp [results, Tryz.results59, go_sem]) rfl ?_
      exact .inl ⟨by rw [HE2.out]; exact HE9.out, ao, cap, by rw [HN9.out], HIn.out, HT99.out⟩
    · have HT99 : Hid _ := t9
      have HE9 : Hid _ := he
      clear t9 he
      go_wp2
      refine bodyPost_ret (v := .tuple #[.slice none 0 0, .int .i64 E2]) (by simp [results, Tryz.results59, go_sem]) rfl ?_
      exact .inr ⟨by rw [HE2.out]; exact HE9.out, by rw [HE2.out], HT99.out⟩

end Go.Proofs.YtcbkafbchpjnoaaGreatDoor
