/-
  package flows: its four functions BY THEIR CONTRACTS. Written by mkfl.py.
-/
import Derived.Test.YtcbkafbchpjnoaaGreatDoorFlTexts
import Derived.Test.YtcbkafbchpjnoaaGreatDoorLkCalls
import Derived.Test.YtcbkafbchpjnoaaGreatDoorAllA
namespace Go.Proofs.YtcbkafbchpjnoaaGreatDoor
set_option linter.unusedVariables false
set_option linter.unusedSimpArgs false
open Go.RowKit
attribute [local go_sem] Oper.semAt_some

theorem flbet_any (a b c : Int) (w : World) : Calls Tryz.prog 128 #[.int .i64 a, .int .i64 b, .int .i64 c] w fun e w' => e = .returned (.bool (decide (a ≤ b) && decide (b ≤ c))) ∧ w = w' := by
  by_cases h1 : a ≤ b <;> by_cases h2 : b ≤ c
  all_goals
    go_enter Tryz.func128, Tryz.ntmps128
    go_wp2
    go_ret
    refine ⟨?_, rfl⟩
    congr 2
    simp_all
theorem flbet_is {a b c : Int} {x : Bool} (h : (decide (a ≤ b) && decide (b ≤ c)) = x) (w : World) : Calls Tryz.prog 128 #[.int .i64 a, .int .i64 b, .int .i64 c] w fun e w' => e = .returned (.bool x) ∧ w = w' := by subst h; exact flbet_any a b c w
theorem flplace_is {a : Int} {x : Bool} (h : (decide (0 ≤ a) && decide (a ≤ 64)) = x) (w : World) : Calls Tryz.prog 125 #[.int .i64 a] w fun e w' => e = .returned (.bool x) ∧ w = w' := by
  have H : Hid _ := h
  clear h
  go_enter Tryz.func125, Tryz.ntmps125
  go_wp2_with fail
  refine (flbet_is H.out _).mono ?_
  rintro e w' ⟨rfl, rfl⟩
  go_wp2
  go_ret
  exact ⟨rfl, rfl⟩
theorem flbar_is {a : Int} {x : Bool} (h : (decide (0 ≤ a) && decide (a ≤ 10)) = x) (w : World) : Calls Tryz.prog 129 #[.int .i64 a] w fun e w' => e = .returned (.bool x) ∧ w = w' := by
  have H : Hid _ := h
  clear h
  go_enter Tryz.func129, Tryz.ntmps129
  go_wp2_with fail
  refine (flbet_is H.out _).mono ?_
  rintro e w' ⟨rfl, rfl⟩
  go_wp2
  go_ret
  exact ⟨rfl, rfl⟩
theorem flque_is {t s : Int} {x : Bool} (h : ((decide (1 ≤ s) && decide (s ≤ 4)) && (decide (0 ≤ t) && decide (t ≤ 10 - s))) = x) (w : World) : Calls Tryz.prog 126 #[.int .i64 t, .int .i64 s] w fun e w' => e = .returned (.bool x) ∧ w = w' := by
  cases h1 : (decide (1 ≤ s) && decide (s ≤ 4)) with
  | false =>
    rw [h1] at h
    have H : Hid _ := h1
    clear h1
    simp only [Bool.false_and] at h
    subst h
    go_enter Tryz.func126, Tryz.ntmps126
    go_wp2_with fail
    refine (flbet_is H.out _).mono ?_
    rintro e w' ⟨rfl, rfl⟩
    go_wp2
    go_ret
    exact ⟨rfl, rfl⟩
  | true =>
    rw [h1] at h
    have H : Hid _ := h1
    have hb : 1 ≤ s ∧ s ≤ 4 := by simpa using h1
    have hw : IntKind.i64.wrap (10 - s) = 10 - s := by rw [IntKind.wrap_i64]; omega
    clear h1
    simp only [Bool.true_and] at h
    have H2 : Hid _ := h
    clear h
    go_enter Tryz.func126, Tryz.ntmps126
    go_wp2_with fail
    refine (flbet_is H.out _).mono ?_
    rintro e w' ⟨rfl, rfl⟩
    go_wp2_with fail
    refine (flbet_is H2.out _).mono ?_
    rintro e w' ⟨rfl, rfl⟩
    go_wp2
    go_ret
    exact ⟨rfl, rfl⟩

theorem arriveM_wf (t s l v : Int) (h : 0 ≤ t ∧ t ≤ 10 ∧ 0 ≤ s ∧ s ≤ 15) : ∀ i ∈ arriveM t s l v, i.Wf ∧ (0 ≤ i.arg ∧ i.arg ≤ 1000) ∧ i.op ≠ 23 ∧ i.op ≠ 24 := by
  intro i hi
  simp only [arriveM, List.mem_cons, List.not_mem_nil, or_false] at hi
  rcases hi with rfl | rfl | rfl | rfl | rfl | rfl | rfl | rfl | rfl | rfl | rfl | rfl | rfl | rfl | rfl | rfl | rfl | rfl | rfl
  · exact ⟨insO_wf (by omega) (by omega) (by omega) (by omega), by unfold insO; simp <;> omega, by unfold insO; simp, by unfold insO; simp⟩
  · exact ⟨insO_wf (by omega) (by omega) (by omega) (by omega), by unfold insO; simp <;> omega, by unfold insO; simp, by unfold insO; simp⟩
  · exact ⟨insO_wf (by omega) (by omega) (by omega) (by omega), by unfold insO; simp <;> omega, by unfold insO; simp, by unfold insO; simp⟩
  · exact ⟨insP_wf (by omega), by unfold insP; simp <;> omega, by unfold insP; simp, by unfold insP; simp⟩
  · exact ⟨insO_wf (by omega) (by omega) (by omega) (by omega), by unfold insO; simp <;> omega, by unfold insO; simp, by unfold insO; simp⟩
  · exact ⟨insO_wf (by omega) (by omega) (by omega) (by omega), by unfold insO; simp <;> omega, by unfold insO; simp, by unfold insO; simp⟩
  · exact ⟨insP_wf (by omega), by unfold insP; simp <;> omega, by unfold insP; simp, by unfold insP; simp⟩
  · exact ⟨insO_wf (by omega) (by omega) (by omega) (by omega), by unfold insO; simp <;> omega, by unfold insO; simp, by unfold insO; simp⟩
  · exact ⟨insO_wf (by omega) (by omega) (by omega) (by omega), by unfold insO; simp <;> omega, by unfold insO; simp, by unfold insO; simp⟩
  · exact ⟨insO_wf (by omega) (by omega) (by omega) (by omega), by unfold insO; simp <;> omega, by unfold insO; simp, by unfold insO; simp⟩
  · exact ⟨insP_wf (by omega), by unfold insP; simp <;> omega, by unfold insP; simp, by unfold insP; simp⟩
  · exact ⟨insO_wf (by omega) (by omega) (by omega) (by omega), by unfold insO; simp <;> omega, by unfold insO; simp, by unfold insO; simp⟩
  · exact ⟨insO_wf (by omega) (by omega) (by omega) (by omega), by unfold insO; simp <;> omega, by unfold insO; simp, by unfold insO; simp⟩
  · exact ⟨insP_wf (by omega), by unfold insP; simp <;> omega, by unfold insP; simp, by unfold insP; simp⟩
  · exact ⟨insO_wf (by omega) (by omega) (by omega) (by omega), by unfold insO; simp <;> omega, by unfold insO; simp, by unfold insO; simp⟩
  · exact ⟨insO_wf (by omega) (by omega) (by omega) (by omega), by unfold insO; simp <;> omega, by unfold insO; simp, by unfold insO; simp⟩
  · exact ⟨insO_wf (by omega) (by omega) (by omega) (by omega), by unfold insO; simp <;> omega, by unfold insO; simp, by unfold insO; simp⟩
  · exact ⟨insO_wf (by omega) (by omega) (by omega) (by omega), by unfold insO; simp <;> omega, by unfold insO; simp, by unfold insO; simp⟩
  · exact ⟨insO_wf (by omega) (by omega) (by omega) (by omega), by unfold insO; simp <;> omega, by unfold insO; simp, by unfold insO; simp⟩
theorem arriveI_wf (a t s l v : Int) (ha : 0 ≤ a ∧ a ≤ 64) (h : 0 ≤ t ∧ t ≤ 10 ∧ 0 ≤ s ∧ s ≤ 15) : ∀ i ∈ arriveI a t s l v, i.Wf := by
  intro i hi
  rw [← arriveI_map] at hi
  obtain ⟨j, hj, rfl⟩ := List.mem_map.1 hi
  have := arriveM_wf t s l v h j hj
  exact shI_wf ha.1 ha.2 this.1 this.2.1
def arriveMay (a t s : Int) : Bool := (decide (0 ≤ a) && decide (a ≤ 64)) && (decide (1 ≤ s) && decide (s ≤ 4)) && (decide (0 ≤ t) && decide (t ≤ 10))
def arriveE (a t s : Int) : Int := if arriveMay a t s then (if a + 19 > 64 then 4 else 0) else 2
set_option maxRecDepth 100000 in
set_option maxHeartbeats 2000000 in
theorem flarrive_any {w : World} (hw : Wds w) (a t s : Int) : Calls Tryz.prog 93 #[.int .i64 a, .int .i64 t, .int .i64 s] w (LkP w (arriveE a t s) (arriveI a t s 0 0)) := by
  obtain ⟨E, hE⟩ : ∃ E, E = arriveE a t s := ⟨_, rfl⟩
  obtain ⟨RL, hRL⟩ : ∃ RL, RL = arriveI a t s 0 0 := ⟨_, rfl⟩
  rw [← hE, ← hRL]
  unfold arriveE arriveMay at hE
  have HE : Hid _ := hE
  have HRL : Hid _ := hRL
  have HW : Hid _ := hw
  clear hE hRL hw
  cases c0 : (decide (0 ≤ a) && decide (a ≤ 64)) with
  | false =>
    have HE2 : Hid (E = 2) := by show _ = _; rw [HE.out, if_neg (by simp only [c0]; simp)]
    have HC0 : Hid _ := c0
    clear c0 HE HRL HW
    go_enter Tryz.func93, Tryz.ntmps93
    go_wp2_with fail
    refine (flplace_is HC0.out _).mono ?_
    rintro e w' ⟨rfl, rfl⟩
    go_wp2
    refine bodyPost_ret (v := .tuple #[.slice none 0 0, .int .i64 2]) (by simp [results, Tryz.results93, go_sem]) rfl ?_
    exact .inr ⟨by rw [HE2.out]; omega, by rw [HE2.out], Touch.refl _ _⟩
  | true =>
  cases c1 : (decide (1 ≤ s) && decide (s ≤ 4)) with
  | false =>
    have HE2 : Hid (E = 2) := by show _ = _; rw [HE.out, if_neg (by simp only [c0, c1]; simp)]
    have HC0 : Hid _ := c0
    have HC1 : Hid _ := c1
    clear c0 c1 HE HRL HW
    go_enter Tryz.func93, Tryz.ntmps93
    go_wp2_with fail
    refine (flplace_is HC0.out _).mono ?_
    rintro e w' ⟨rfl, rfl⟩
    go_wp2_with fail
    refine (flbet_is HC1.out _).mono ?_
    rintro e w' ⟨rfl, rfl⟩
    go_wp2
    refine bodyPost_ret (v := .tuple #[.slice none 0 0, .int .i64 2]) (by simp [results, Tryz.results93, go_sem]) rfl ?_
    exact .inr ⟨by rw [HE2.out]; omega, by rw [HE2.out], Touch.refl _ _⟩
  | true =>
  cases c2 : (decide (0 ≤ t) && decide (t ≤ 10)) with
  | false =>
    have HE2 : Hid (E = 2) := by show _ = _; rw [HE.out, if_neg (by simp only [c0, c1, c2]; simp)]
    have HC0 : Hid _ := c0
    have HC1 : Hid _ := c1
    have HC2 : Hid _ := c2
    clear c0 c1 c2 HE HRL HW
    go_enter Tryz.func93, Tryz.ntmps93
    go_wp2_with fail
    refine (flplace_is HC0.out _).mono ?_
    rintro e w' ⟨rfl, rfl⟩
    go_wp2_with fail
    refine (flbet_is HC1.out _).mono ?_
    rintro e w' ⟨rfl, rfl⟩
    go_wp2_with fail
    refine (flbar_is HC2.out _).mono ?_
    rintro e w' ⟨rfl, rfl⟩
    go_wp2
    refine bodyPost_ret (v := .tuple #[.slice none 0 0, .int .i64 2]) (by simp [results, Tryz.results93, go_sem]) rfl ?_
    exact .inr ⟨by rw [HE2.out]; omega, by rw [HE2.out], Touch.refl _ _⟩
  | true =>
  have hb : 0 ≤ a ∧ a ≤ 64 ∧ 1 ≤ s ∧ s ≤ 4 ∧ 0 ≤ t ∧ t ≤ 10 := by simp only [Bool.and_eq_true, decide_eq_true_eq] at c0 c1 c2; omega
  have HC0 : Hid _ := c0
  have HC1 : Hid _ := c1
  have HC2 : Hid _ := c2
  have HE2 : Hid (E = if a + 19 > 64 then 4 else 0) := by show _ = _; rw [HE.out, if_pos (by simp only [c0, c1, c2]; simp)]
  have HB : Hid (HidC Tryz.prog 127 #[.string arriveT, (⟨a, t, s, 0, 0⟩ : Nm).val] w (LkP w E RL)) := ⟨by
    have h := flblock_any (w := w) HW.out ⟨a, t, s, 0, 0⟩ ⟨by simp only; omega, by simp only; omega, by simp only; omega, by simp only; omega⟩ arriveT arriveT_ok (by rw [arriveT_rows]; exact arriveI_wf _ _ _ _ _ (by omega) (by omega))
    rw [arriveT_rows, ← HRL.out] at h
    have hl : RL.length = 19 := by rw [HRL.out]; rfl
    rw [hl] at h
    rw [HE2.out]
    exact h⟩
  clear hb c0 c1 c2 HE HW
  go_enter Tryz.func93, Tryz.ntmps93
  go_wp2_with fail
  refine (flplace_is HC0.out _).mono ?_
  rintro e w' ⟨rfl, rfl⟩
  go_wp2_with fail
  refine (flbet_is HC1.out _).mono ?_
  rintro e w' ⟨rfl, rfl⟩
  go_wp2_with fail
  refine (flbar_is HC2.out _).mono ?_
  rintro e w' ⟨rfl, rfl⟩
  go_wp2_with fail
  refine HB.out.out.mono ?_
  intro e w9 h9
  clear HB
  rcases h9 with ⟨he, ao, cap, rfl, hin, t9⟩ | ⟨he, rfl, t9⟩
  · have HIn : Hid _ := hin
    have HT9 : Hid _ := t9
    have HE9 : Hid _ := he
    obtain ⟨n9, hn9⟩ : ∃ n9, n9 = RL.length := ⟨_, rfl⟩
    have HN9 : Hid _ := hn9
    rw [← hn9]
    clear hin t9 he hn9
    go_wp2
    refine bodyPost_ret (v := .tuple #[.slice ao n9 cap, .int .i64 0]) (by simp [results, Tryz.results93, go_sem]) rfl ?_
    exact .inl ⟨HE9.out, ao, cap, by rw [HN9.out], HIn.out, HT9.out⟩
  · have HT9 : Hid _ := t9
    have HE9 : Hid _ := he
    clear t9 he
    go_wp2
    refine bodyPost_ret (v := .tuple #[.slice none 0 0, .int .i64 E]) (by simp [results, Tryz.results93, go_sem]) rfl ?_
    exact .inr ⟨HE9.out, rfl, HT9.out⟩
theorem leaveM_wf (t s l v : Int) (h : 0 ≤ t ∧ t ≤ 10 ∧ 0 ≤ l ∧ l ≤ 15) : ∀ i ∈ leaveM t s l v, i.Wf ∧ (0 ≤ i.arg ∧ i.arg ≤ 1000) ∧ i.op ≠ 23 ∧ i.op ≠ 24 := by
  intro i hi
  simp only [leaveM, List.mem_cons, List.not_mem_nil, or_false] at hi
  rcases hi with rfl | rfl | rfl | rfl | rfl | rfl | rfl | rfl
  · exact ⟨insO_wf (by omega) (by omega) (by omega) (by omega), by unfold insO; simp <;> omega, by unfold insO; simp, by unfold insO; simp⟩
  · exact ⟨insO_wf (by omega) (by omega) (by omega) (by omega), by unfold insO; simp <;> omega, by unfold insO; simp, by unfold insO; simp⟩
  · exact ⟨insO_wf (by omega) (by omega) (by omega) (by omega), by unfold insO; simp <;> omega, by unfold insO; simp, by unfold insO; simp⟩
  · exact ⟨insO_wf (by omega) (by omega) (by omega) (by omega), by unfold insO; simp <;> omega, by unfold insO; simp, by unfold insO; simp⟩
  · exact ⟨insO_wf (by omega) (by omega) (by omega) (by omega), by unfold insO; simp <;> omega, by unfold insO; simp, by unfold insO; simp⟩
  · exact ⟨insO_wf (by omega) (by omega) (by omega) (by omega), by unfold insO; simp <;> omega, by unfold insO; simp, by unfold insO; simp⟩
  · exact ⟨insO_wf (by omega) (by omega) (by omega) (by omega), by unfold insO; simp <;> omega, by unfold insO; simp, by unfold insO; simp⟩
  · exact ⟨insO_wf (by omega) (by omega) (by omega) (by omega), by unfold insO; simp <;> omega, by unfold insO; simp, by unfold insO; simp⟩
theorem leaveI_wf (a t s l v : Int) (ha : 0 ≤ a ∧ a ≤ 64) (h : 0 ≤ t ∧ t ≤ 10 ∧ 0 ≤ l ∧ l ≤ 15) : ∀ i ∈ leaveI a t s l v, i.Wf := by
  intro i hi
  rw [← leaveI_map] at hi
  obtain ⟨j, hj, rfl⟩ := List.mem_map.1 hi
  have := leaveM_wf t s l v h j hj
  exact shI_wf ha.1 ha.2 this.1 this.2.1
def leaveMay (a t l : Int) : Bool := (decide (0 ≤ a) && decide (a ≤ 64)) && (decide (0 ≤ t) && decide (t ≤ 10)) && (decide (0 ≤ l) && decide (l ≤ 3))
def leaveE (a t l : Int) : Int := if leaveMay a t l then (if a + 8 > 64 then 4 else 0) else 2
set_option maxRecDepth 100000 in
set_option maxHeartbeats 2000000 in
theorem flleave_any {w : World} (hw : Wds w) (a t l : Int) : Calls Tryz.prog 94 #[.int .i64 a, .int .i64 t, .int .i64 l] w (LkP w (leaveE a t l) (leaveI a t 0 l 0)) := by
  obtain ⟨E, hE⟩ : ∃ E, E = leaveE a t l := ⟨_, rfl⟩
  obtain ⟨RL, hRL⟩ : ∃ RL, RL = leaveI a t 0 l 0 := ⟨_, rfl⟩
  rw [← hE, ← hRL]
  unfold leaveE leaveMay at hE
  have HE : Hid _ := hE
  have HRL : Hid _ := hRL
  have HW : Hid _ := hw
  clear hE hRL hw
  cases c0 : (decide (0 ≤ a) && decide (a ≤ 64)) with
  | false =>
    have HE2 : Hid (E = 2) := by show _ = _; rw [HE.out, if_neg (by simp only [c0]; simp)]
    have HC0 : Hid _ := c0
    clear c0 HE HRL HW
    go_enter Tryz.func94, Tryz.ntmps94
    go_wp2_with fail
    refine (flplace_is HC0.out _).mono ?_
    rintro e w' ⟨rfl, rfl⟩
    go_wp2
    refine bodyPost_ret (v := .tuple #[.slice none 0 0, .int .i64 2]) (by simp [results, Tryz.results94, go_sem]) rfl ?_
    exact .inr ⟨by rw [HE2.out]; omega, by rw [HE2.out], Touch.refl _ _⟩
  | true =>
  cases c1 : (decide (0 ≤ t) && decide (t ≤ 10)) with
  | false =>
    have HE2 : Hid (E = 2) := by show _ = _; rw [HE.out, if_neg (by simp only [c0, c1]; simp)]
    have HC0 : Hid _ := c0
    have HC1 : Hid _ := c1
    clear c0 c1 HE HRL HW
    go_enter Tryz.func94, Tryz.ntmps94
    go_wp2_with fail
    refine (flplace_is HC0.out _).mono ?_
    rintro e w' ⟨rfl, rfl⟩
    go_wp2_with fail
    refine (flbar_is HC1.out _).mono ?_
    rintro e w' ⟨rfl, rfl⟩
    go_wp2
    refine bodyPost_ret (v := .tuple #[.slice none 0 0, .int .i64 2]) (by simp [results, Tryz.results94, go_sem]) rfl ?_
    exact .inr ⟨by rw [HE2.out]; omega, by rw [HE2.out], Touch.refl _ _⟩
  | true =>
  cases c2 : (decide (0 ≤ l) && decide (l ≤ 3)) with
  | false =>
    have HE2 : Hid (E = 2) := by show _ = _; rw [HE.out, if_neg (by simp only [c0, c1, c2]; simp)]
    have HC0 : Hid _ := c0
    have HC1 : Hid _ := c1
    have HC2 : Hid _ := c2
    clear c0 c1 c2 HE HRL HW
    go_enter Tryz.func94, Tryz.ntmps94
    go_wp2_with fail
    refine (flplace_is HC0.out _).mono ?_
    rintro e w' ⟨rfl, rfl⟩
    go_wp2_with fail
    refine (flbar_is HC1.out _).mono ?_
    rintro e w' ⟨rfl, rfl⟩
    go_wp2_with fail
    refine (flbet_is HC2.out _).mono ?_
    rintro e w' ⟨rfl, rfl⟩
    go_wp2
    refine bodyPost_ret (v := .tuple #[.slice none 0 0, .int .i64 2]) (by simp [results, Tryz.results94, go_sem]) rfl ?_
    exact .inr ⟨by rw [HE2.out]; omega, by rw [HE2.out], Touch.refl _ _⟩
  | true =>
  have hb : 0 ≤ a ∧ a ≤ 64 ∧ 0 ≤ t ∧ t ≤ 10 ∧ 0 ≤ l ∧ l ≤ 3 := by simp only [Bool.and_eq_true, decide_eq_true_eq] at c0 c1 c2; omega
  have HC0 : Hid _ := c0
  have HC1 : Hid _ := c1
  have HC2 : Hid _ := c2
  have HE2 : Hid (E = if a + 8 > 64 then 4 else 0) := by show _ = _; rw [HE.out, if_pos (by simp only [c0, c1, c2]; simp)]
  have HB : Hid (HidC Tryz.prog 127 #[.string leaveT, (⟨a, t, 0, l, 0⟩ : Nm).val] w (LkP w E RL)) := ⟨by
    have h := flblock_any (w := w) HW.out ⟨a, t, 0, l, 0⟩ ⟨by simp only; omega, by simp only; omega, by simp only; omega, by simp only; omega⟩ leaveT leaveT_ok (by rw [leaveT_rows]; exact leaveI_wf _ _ _ _ _ (by omega) (by omega))
    rw [leaveT_rows, ← HRL.out] at h
    have hl : RL.length = 8 := by rw [HRL.out]; rfl
    rw [hl] at h
    rw [HE2.out]
    exact h⟩
  clear hb c0 c1 c2 HE HW
  go_enter Tryz.func94, Tryz.ntmps94
  go_wp2_with fail
  refine (flplace_is HC0.out _).mono ?_
  rintro e w' ⟨rfl, rfl⟩
  go_wp2_with fail
  refine (flbar_is HC1.out _).mono ?_
  rintro e w' ⟨rfl, rfl⟩
  go_wp2_with fail
  refine (flbet_is HC2.out _).mono ?_
  rintro e w' ⟨rfl, rfl⟩
  go_wp2_with fail
  refine HB.out.out.mono ?_
  intro e w9 h9
  clear HB
  rcases h9 with ⟨he, ao, cap, rfl, hin, t9⟩ | ⟨he, rfl, t9⟩
  · have HIn : Hid _ := hin
    have HT9 : Hid _ := t9
    have HE9 : Hid _ := he
    obtain ⟨n9, hn9⟩ : ∃ n9, n9 = RL.length := ⟨_, rfl⟩
    have HN9 : Hid _ := hn9
    rw [← hn9]
    clear hin t9 he hn9
    go_wp2
    refine bodyPost_ret (v := .tuple #[.slice ao n9 cap, .int .i64 0]) (by simp [results, Tryz.results94, go_sem]) rfl ?_
    exact .inl ⟨HE9.out, ao, cap, by rw [HN9.out], HIn.out, HT9.out⟩
  · have HT9 : Hid _ := t9
    have HE9 : Hid _ := he
    clear t9 he
    go_wp2
    refine bodyPost_ret (v := .tuple #[.slice none 0 0, .int .i64 E]) (by simp [results, Tryz.results94, go_sem]) rfl ?_
    exact .inr ⟨HE9.out, rfl, HT9.out⟩
theorem takeM_wf (t s l v : Int) (h : 0 ≤ t ∧ t ≤ 10 ∧ 0 ≤ s ∧ s ≤ 15) : ∀ i ∈ takeM t s l v, i.Wf ∧ (0 ≤ i.arg ∧ i.arg ≤ 1000) ∧ i.op ≠ 23 ∧ i.op ≠ 24 := by
  intro i hi
  simp only [takeM, List.mem_cons, List.not_mem_nil, or_false] at hi
  rcases hi with rfl | rfl | rfl | rfl | rfl | rfl | rfl | rfl | rfl | rfl | rfl | rfl | rfl | rfl | rfl | rfl | rfl | rfl | rfl | rfl | rfl | rfl | rfl | rfl
  · exact ⟨insO_wf (by omega) (by omega) (by omega) (by omega), by unfold insO; simp <;> omega, by unfold insO; simp, by unfold insO; simp⟩
  · exact ⟨insO_wf (by omega) (by omega) (by omega) (by omega), by unfold insO; simp <;> omega, by unfold insO; simp, by unfold insO; simp⟩
  · exact ⟨insO_wf (by omega) (by omega) (by omega) (by omega), by unfold insO; simp <;> omega, by unfold insO; simp, by unfold insO; simp⟩
  · exact ⟨insO_wf (by omega) (by omega) (by omega) (by omega), by unfold insO; simp <;> omega, by unfold insO; simp, by unfold insO; simp⟩
  · exact ⟨insO_wf (by omega) (by omega) (by omega) (by omega), by unfold insO; simp <;> omega, by unfold insO; simp, by unfold insO; simp⟩
  · exact ⟨insO_wf (by omega) (by omega) (by omega) (by omega), by unfold insO; simp <;> omega, by unfold insO; simp, by unfold insO; simp⟩
  · exact ⟨insP_wf (by omega), by unfold insP; simp <;> omega, by unfold insP; simp, by unfold insP; simp⟩
  · exact ⟨insO_wf (by omega) (by omega) (by omega) (by omega), by unfold insO; simp <;> omega, by unfold insO; simp, by unfold insO; simp⟩
  · exact ⟨insO_wf (by omega) (by omega) (by omega) (by omega), by unfold insO; simp <;> omega, by unfold insO; simp, by unfold insO; simp⟩
  · exact ⟨insO_wf (by omega) (by omega) (by omega) (by omega), by unfold insO; simp <;> omega, by unfold insO; simp, by unfold insO; simp⟩
  · exact ⟨insP_wf (by omega), by unfold insP; simp <;> omega, by unfold insP; simp, by unfold insP; simp⟩
  · exact ⟨insO_wf (by omega) (by omega) (by omega) (by omega), by unfold insO; simp <;> omega, by unfold insO; simp, by unfold insO; simp⟩
  · exact ⟨insO_wf (by omega) (by omega) (by omega) (by omega), by unfold insO; simp <;> omega, by unfold insO; simp, by unfold insO; simp⟩
  · exact ⟨insP_wf (by omega), by unfold insP; simp <;> omega, by unfold insP; simp, by unfold insP; simp⟩
  · exact ⟨insO_wf (by omega) (by omega) (by omega) (by omega), by unfold insO; simp <;> omega, by unfold insO; simp, by unfold insO; simp⟩
  · exact ⟨insO_wf (by omega) (by omega) (by omega) (by omega), by unfold insO; simp <;> omega, by unfold insO; simp, by unfold insO; simp⟩
  · exact ⟨insO_wf (by omega) (by omega) (by omega) (by omega), by unfold insO; simp <;> omega, by unfold insO; simp, by unfold insO; simp⟩
  · exact ⟨insO_wf (by omega) (by omega) (by omega) (by omega), by unfold insO; simp <;> omega, by unfold insO; simp, by unfold insO; simp⟩
  · exact ⟨insO_wf (by omega) (by omega) (by omega) (by omega), by unfold insO; simp <;> omega, by unfold insO; simp, by unfold insO; simp⟩
  · exact ⟨insP_wf (by omega), by unfold insP; simp <;> omega, by unfold insP; simp, by unfold insP; simp⟩
  · exact ⟨insO_wf (by omega) (by omega) (by omega) (by omega), by unfold insO; simp <;> omega, by unfold insO; simp, by unfold insO; simp⟩
  · exact ⟨insO_wf (by omega) (by omega) (by omega) (by omega), by unfold insO; simp <;> omega, by unfold insO; simp, by unfold insO; simp⟩
  · exact ⟨insO_wf (by omega) (by omega) (by omega) (by omega), by unfold insO; simp <;> omega, by unfold insO; simp, by unfold insO; simp⟩
  · exact ⟨insO_wf (by omega) (by omega) (by omega) (by omega), by unfold insO; simp <;> omega, by unfold insO; simp, by unfold insO; simp⟩
theorem takeI_wf (a t s l v : Int) (ha : 0 ≤ a ∧ a ≤ 64) (h : 0 ≤ t ∧ t ≤ 10 ∧ 0 ≤ s ∧ s ≤ 15) : ∀ i ∈ takeI a t s l v, i.Wf := by
  intro i hi
  rw [← takeI_map] at hi
  obtain ⟨j, hj, rfl⟩ := List.mem_map.1 hi
  have := takeM_wf t s l v h j hj
  exact shI_wf ha.1 ha.2 this.1 this.2.1
def takeMay (a t s : Int) : Bool := (decide (0 ≤ a) && decide (a ≤ 64)) && ((decide (1 ≤ s) && decide (s ≤ 4)) && (decide (0 ≤ t) && decide (t ≤ 10 - s)))
def takeE (a t s : Int) : Int := if takeMay a t s then (if a + 24 > 64 then 4 else 0) else 2
set_option maxRecDepth 100000 in
set_option maxHeartbeats 2000000 in
theorem fltake_any {w : World} (hw : Wds w) (a t s : Int) : Calls Tryz.prog 92 #[.int .i64 a, .int .i64 t, .int .i64 s] w (LkP w (takeE a t s) (takeI a t s 0 0)) := by
  obtain ⟨E, hE⟩ : ∃ E, E = takeE a t s := ⟨_, rfl⟩
  obtain ⟨RL, hRL⟩ : ∃ RL, RL = takeI a t s 0 0 := ⟨_, rfl⟩
  rw [← hE, ← hRL]
  unfold takeE takeMay at hE
  have HE : Hid _ := hE
  have HRL : Hid _ := hRL
  have HW : Hid _ := hw
  clear hE hRL hw
  cases c0 : (decide (0 ≤ a) && decide (a ≤ 64)) with
  | false =>
    have HE2 : Hid (E = 2) := by show _ = _; rw [HE.out, if_neg (by simp only [c0]; simp)]
    have HC0 : Hid _ := c0
    clear c0 HE HRL HW
    go_enter Tryz.func92, Tryz.ntmps92
    go_wp2_with fail
    refine (flplace_is HC0.out _).mono ?_
    rintro e w' ⟨rfl, rfl⟩
    go_wp2
    refine bodyPost_ret (v := .tuple #[.slice none 0 0, .int .i64 2]) (by simp [results, Tryz.results92, go_sem]) rfl ?_
    exact .inr ⟨by rw [HE2.out]; omega, by rw [HE2.out], Touch.refl _ _⟩
  | true =>
  cases c1 : ((decide (1 ≤ s) && decide (s ≤ 4)) && (decide (0 ≤ t) && decide (t ≤ 10 - s))) with
  | false =>
    have HE2 : Hid (E = 2) := by show _ = _; rw [HE.out, if_neg (by simp only [c0, c1]; simp)]
    have HC0 : Hid _ := c0
    have HC1 : Hid _ := c1
    clear c0 c1 HE HRL HW
    go_enter Tryz.func92, Tryz.ntmps92
    go_wp2_with fail
    refine (flplace_is HC0.out _).mono ?_
    rintro e w' ⟨rfl, rfl⟩
    go_wp2_with fail
    refine (flque_is HC1.out _).mono ?_
    rintro e w' ⟨rfl, rfl⟩
    go_wp2
    refine bodyPost_ret (v := .tuple #[.slice none 0 0, .int .i64 2]) (by simp [results, Tryz.results92, go_sem]) rfl ?_
    exact .inr ⟨by rw [HE2.out]; omega, by rw [HE2.out], Touch.refl _ _⟩
  | true =>
  have hb : 0 ≤ a ∧ a ≤ 64 ∧ 1 ≤ s ∧ s ≤ 4 ∧ 0 ≤ t ∧ t ≤ 10 := by simp only [Bool.and_eq_true, decide_eq_true_eq] at c0 c1; omega
  have HC0 : Hid _ := c0
  have HC1 : Hid _ := c1
  have HE2 : Hid (E = if a + 24 > 64 then 4 else 0) := by show _ = _; rw [HE.out, if_pos (by simp only [c0, c1]; simp)]
  have HB : Hid (HidC Tryz.prog 127 #[.string takeT, (⟨a, t, s, 0, 0⟩ : Nm).val] w (LkP w E RL)) := ⟨by
    have h := flblock_any (w := w) HW.out ⟨a, t, s, 0, 0⟩ ⟨by simp only; omega, by simp only; omega, by simp only; omega, by simp only; omega⟩ takeT takeT_ok (by rw [takeT_rows]; exact takeI_wf _ _ _ _ _ (by omega) (by omega))
    rw [takeT_rows, ← HRL.out] at h
    have hl : RL.length = 24 := by rw [HRL.out]; rfl
    rw [hl] at h
    rw [HE2.out]
    exact h⟩
  clear hb c0 c1 HE HW
  go_enter Tryz.func92, Tryz.ntmps92
  go_wp2_with fail
  refine (flplace_is HC0.out _).mono ?_
  rintro e w' ⟨rfl, rfl⟩
  go_wp2_with fail
  refine (flque_is HC1.out _).mono ?_
  rintro e w' ⟨rfl, rfl⟩
  go_wp2_with fail
  refine HB.out.out.mono ?_
  intro e w9 h9
  clear HB
  rcases h9 with ⟨he, ao, cap, rfl, hin, t9⟩ | ⟨he, rfl, t9⟩
  · have HIn : Hid _ := hin
    have HT9 : Hid _ := t9
    have HE9 : Hid _ := he
    obtain ⟨n9, hn9⟩ : ∃ n9, n9 = RL.length := ⟨_, rfl⟩
    have HN9 : Hid _ := hn9
    rw [← hn9]
    clear hin t9 he hn9
    go_wp2
    refine bodyPost_ret (v := .tuple #[.slice ao n9 cap, .int .i64 0]) (by simp [results, Tryz.results92, go_sem]) rfl ?_
    exact .inl ⟨HE9.out, ao, cap, by rw [HN9.out], HIn.out, HT9.out⟩
  · have HT9 : Hid _ := t9
    have HE9 : Hid _ := he
    clear t9 he
    go_wp2
    refine bodyPost_ret (v := .tuple #[.slice none 0 0, .int .i64 E]) (by simp [results, Tryz.results92, go_sem]) rfl ?_
    exact .inr ⟨HE9.out, rfl, HT9.out⟩
theorem enterM_wf (t s l v : Int) (h : 0 ≤ t ∧ t ≤ 10 ∧ 0 ≤ s ∧ s ≤ 15) (hv : Wf64 v) : ∀ i ∈ enterM t s l v, i.Wf ∧ (0 ≤ i.arg ∧ i.arg ≤ 1000) ∧ i.op ≠ 23 ∧ i.op ≠ 24 := by
  intro i hi
  simp only [enterM, List.mem_cons, List.not_mem_nil, or_false] at hi
  rcases hi with rfl | rfl | rfl | rfl | rfl | rfl | rfl | rfl | rfl | rfl | rfl | rfl | rfl | rfl | rfl | rfl | rfl | rfl | rfl | rfl | rfl | rfl | rfl
  · exact ⟨insO_wf (by omega) (by omega) (by omega) (by omega), by unfold insO; simp <;> omega, by unfold insO; simp, by unfold insO; simp⟩
  · exact ⟨insO_wf (by omega) (by omega) (by omega) (by omega), by unfold insO; simp <;> omega, by unfold insO; simp, by unfold insO; simp⟩
  · exact ⟨insP_wf (by omega), by unfold insP; simp <;> omega, by unfold insP; simp, by unfold insP; simp⟩
  · exact ⟨insO_wf (by omega) (by omega) (by omega) (by omega), by unfold insO; simp <;> omega, by unfold insO; simp, by unfold insO; simp⟩
  · exact ⟨insO_wf (by omega) (by omega) (by omega) (by omega), by unfold insO; simp <;> omega, by unfold insO; simp, by unfold insO; simp⟩
  · exact ⟨insO_wf (by omega) (by omega) (by omega) (by omega), by unfold insO; simp <;> omega, by unfold insO; simp, by unfold insO; simp⟩
  · exact ⟨⟨by simp, by simp, hv⟩, by simp, by simp, by simp⟩
  · exact ⟨insO_wf (by omega) (by omega) (by omega) (by omega), by unfold insO; simp <;> omega, by unfold insO; simp, by unfold insO; simp⟩
  · exact ⟨insO_wf (by omega) (by omega) (by omega) (by omega), by unfold insO; simp <;> omega, by unfold insO; simp, by unfold insO; simp⟩
  · exact ⟨insO_wf (by omega) (by omega) (by omega) (by omega), by unfold insO; simp <;> omega, by unfold insO; simp, by unfold insO; simp⟩
  · exact ⟨insO_wf (by omega) (by omega) (by omega) (by omega), by unfold insO; simp <;> omega, by unfold insO; simp, by unfold insO; simp⟩
  · exact ⟨insP_wf (by omega), by unfold insP; simp <;> omega, by unfold insP; simp, by unfold insP; simp⟩
  · exact ⟨insO_wf (by omega) (by omega) (by omega) (by omega), by unfold insO; simp <;> omega, by unfold insO; simp, by unfold insO; simp⟩
  · exact ⟨insO_wf (by omega) (by omega) (by omega) (by omega), by unfold insO; simp <;> omega, by unfold insO; simp, by unfold insO; simp⟩
  · exact ⟨insO_wf (by omega) (by omega) (by omega) (by omega), by unfold insO; simp <;> omega, by unfold insO; simp, by unfold insO; simp⟩
  · exact ⟨insP_wf (by omega), by unfold insP; simp <;> omega, by unfold insP; simp, by unfold insP; simp⟩
  · exact ⟨insO_wf (by omega) (by omega) (by omega) (by omega), by unfold insO; simp <;> omega, by unfold insO; simp, by unfold insO; simp⟩
  · exact ⟨insO_wf (by omega) (by omega) (by omega) (by omega), by unfold insO; simp <;> omega, by unfold insO; simp, by unfold insO; simp⟩
  · exact ⟨insO_wf (by omega) (by omega) (by omega) (by omega), by unfold insO; simp <;> omega, by unfold insO; simp, by unfold insO; simp⟩
  · exact ⟨insP_wf (by omega), by unfold insP; simp <;> omega, by unfold insP; simp, by unfold insP; simp⟩
  · exact ⟨insO_wf (by omega) (by omega) (by omega) (by omega), by unfold insO; simp <;> omega, by unfold insO; simp, by unfold insO; simp⟩
  · exact ⟨insO_wf (by omega) (by omega) (by omega) (by omega), by unfold insO; simp <;> omega, by unfold insO; simp, by unfold insO; simp⟩
  · exact ⟨insO_wf (by omega) (by omega) (by omega) (by omega), by unfold insO; simp <;> omega, by unfold insO; simp, by unfold insO; simp⟩
theorem enterI_wf (a t s l v : Int) (ha : 0 ≤ a ∧ a ≤ 64) (h : 0 ≤ t ∧ t ≤ 10 ∧ 0 ≤ s ∧ s ≤ 15) (hv : Wf64 v) : ∀ i ∈ enterI a t s l v, i.Wf := by
  intro i hi
  rw [← enterI_map] at hi
  obtain ⟨j, hj, rfl⟩ := List.mem_map.1 hi
  have := enterM_wf t s l v h hv j hj
  exact shI_wf ha.1 ha.2 this.1 this.2.1
def enterMay (a t s : Int) : Bool := (decide (0 ≤ a) && decide (a ≤ 64)) && ((decide (1 ≤ s) && decide (s ≤ 4)) && (decide (0 ≤ t) && decide (t ≤ 10 - s)))
def enterE (a t s v : Int) : Int := if enterMay a t s then (if rightB v then if a + 23 > 64 then 4 else 0 else 3) else 2
set_option maxRecDepth 100000 in
set_option maxHeartbeats 2000000 in
theorem flenter_any {w : World} (hw : Wds w) (a t s v : Int) (hv : Wf64 v) : Calls Tryz.prog 91 #[.int .i64 a, .int .i64 t, .int .i64 s, .int .u64 v] w (LkP w (enterE a t s v) (enterI a t s 0 v)) := by
  obtain ⟨E, hE⟩ : ∃ E, E = enterE a t s v := ⟨_, rfl⟩
  obtain ⟨RL, hRL⟩ : ∃ RL, RL = enterI a t s 0 v := ⟨_, rfl⟩
  rw [← hE, ← hRL]
  unfold enterE enterMay at hE
  have HE : Hid _ := hE
  have HRL : Hid _ := hRL
  have HW : Hid _ := hw
  clear hE hRL hw
  have HV : Hid _ := hv
  clear hv
  cases c0 : (decide (0 ≤ a) && decide (a ≤ 64)) with
  | false =>
    have HE2 : Hid (E = 2) := by show _ = _; rw [HE.out, if_neg (by simp only [c0]; simp)]
    have HC0 : Hid _ := c0
    clear c0 HE HRL HW
    go_enter Tryz.func91, Tryz.ntmps91
    go_wp2_with fail
    refine (flplace_is HC0.out _).mono ?_
    rintro e w' ⟨rfl, rfl⟩
    go_wp2
    refine bodyPost_ret (v := .tuple #[.slice none 0 0, .int .i64 2]) (by simp [results, Tryz.results91, go_sem]) rfl ?_
    exact .inr ⟨by rw [HE2.out]; omega, by rw [HE2.out], Touch.refl _ _⟩
  | true =>
  cases c1 : ((decide (1 ≤ s) && decide (s ≤ 4)) && (decide (0 ≤ t) && decide (t ≤ 10 - s))) with
  | false =>
    have HE2 : Hid (E = 2) := by show _ = _; rw [HE.out, if_neg (by simp only [c0, c1]; simp)]
    have HC0 : Hid _ := c0
    have HC1 : Hid _ := c1
    clear c0 c1 HE HRL HW
    go_enter Tryz.func91, Tryz.ntmps91
    go_wp2_with fail
    refine (flplace_is HC0.out _).mono ?_
    rintro e w' ⟨rfl, rfl⟩
    go_wp2_with fail
    refine (flque_is HC1.out _).mono ?_
    rintro e w' ⟨rfl, rfl⟩
    go_wp2
    refine bodyPost_ret (v := .tuple #[.slice none 0 0, .int .i64 2]) (by simp [results, Tryz.results91, go_sem]) rfl ?_
    exact .inr ⟨by rw [HE2.out]; omega, by rw [HE2.out], Touch.refl _ _⟩
  | true =>
  have hb : 0 ≤ a ∧ a ≤ 64 ∧ 1 ≤ s ∧ s ≤ 4 ∧ 0 ≤ t ∧ t ≤ 10 := by simp only [Bool.and_eq_true, decide_eq_true_eq] at c0 c1; omega
  have HC0 : Hid _ := c0
  have HC1 : Hid _ := c1
  have HE1 : Hid (E = if rightB v then (if a + 23 > 64 then 4 else 0) else 3) := by show _ = _; rw [HE.out, if_pos (by simp only [c0, c1]; simp)]
  have HRT : Hid (HidC Tryz.prog 85 #[.int .u64 v] w fun e w' => e = .returned (.bool (rightB v)) ∧ Touch w w' []) := ⟨(right_any v w).mono (by rintro e w' ⟨rfl, rfl⟩; exact ⟨rfl, Touch.refl _ _⟩)⟩
  have HBD : Hid _ := hb
  clear hb c0 c1 HE
  cases hr : rightB v with
  | false =>
    have HE2 : Hid (E = 3) := by show _ = _; rw [HE1.out, hr]; rfl
    rw [hr] at HRT
    clear hr HE1 HW HV HRL
    go_enter Tryz.func91, Tryz.ntmps91
    go_wp2_with fail
    refine (flplace_is HC0.out _).mono ?_
    rintro e w' ⟨rfl, rfl⟩
    go_wp2_with fail
    refine (flque_is HC1.out _).mono ?_
    rintro e w' ⟨rfl, rfl⟩
    go_wp2_with fail
    refine HRT.out.out.mono ?_
    rintro e w2 ⟨rfl, t2⟩
    have HT2 : Hid _ := t2
    clear t2
    go_wp2
    refine bodyPost_ret (v := .tuple #[.slice none 0 0, .int .i64 3]) (by simp [results, Tryz.results91, go_sem]) rfl ?_
    exact .inr ⟨by rw [HE2.out]; omega, by rw [HE2.out], HT2.out⟩
  | true =>
    have HE2 : Hid (E = if a + 23 > 64 then 4 else 0) := by show _ = _; rw [HE1.out, hr]; rfl
    rw [hr] at HRT
    clear hr HE1
    go_enter Tryz.func91, Tryz.ntmps91
    go_wp2_with fail
    refine (flplace_is HC0.out _).mono ?_
    rintro e w' ⟨rfl, rfl⟩
    go_wp2_with fail
    refine (flque_is HC1.out _).mono ?_
    rintro e w' ⟨rfl, rfl⟩
    go_wp2_with fail
    refine HRT.out.out.mono ?_
    rintro e w2 ⟨rfl, t2⟩
    have HT2 : Hid _ := t2
    have HW1 : Hid _ := HW.out.touch t2 (by simp)
    have hb := HBD.out
    have HB : Hid (HidC Tryz.prog 127 #[.string enterT, (⟨a, t, s, 0, v⟩ : Nm).val] w2 (LkP w2 E RL)) := ⟨by
      have h := flblock_any (w := w2) HW1.out ⟨a, t, s, 0, v⟩ ⟨by simp only; omega, by simp only; omega, by simp only; omega, by simp only; omega⟩ enterT enterT_ok (by rw [enterT_rows]; exact enterI_wf _ _ _ _ _ (by omega) (by omega) HV.out)
      rw [enterT_rows, ← HRL.out] at h
      have hl : RL.length = 23 := by rw [HRL.out]; rfl
      rw [hl] at h
      rw [HE2.out]
      exact h⟩
    clear hb t2 HRT
    go_wp2_with fail
    refine HB.out.out.mono ?_
    intro e w9 h9
    clear HB
    rcases h9 with ⟨he, ao, cap, rfl, hin, t9⟩ | ⟨he, rfl, t9⟩
    · have HIn : Hid _ := hin
      have HT9 : Hid _ := t9
      have HE9 : Hid _ := he
      obtain ⟨n9, hn9⟩ : ∃ n9, n9 = RL.length := ⟨_, rfl⟩
      have HN9 : Hid _ := hn9
      rw [← hn9]
      clear hin t9 he hn9
      go_wp2
      refine bodyPost_ret (v := .tuple #[.slice ao n9 cap, .int .i64 0]) (by simp [results, Tryz.results91, go_sem]) rfl ?_
      exact .inl ⟨HE9.out, ao, cap, by rw [HN9.out], HIn.out, HT2.out.trans HT9.out (by simp)⟩
    · have HT9 : Hid _ := t9
      have HE9 : Hid _ := he
      clear t9 he
      go_wp2
      refine bodyPost_ret (v := .tuple #[.slice none 0 0, .int .i64 E]) (by simp [results, Tryz.results91, go_sem]) rfl ?_
      exact .inr ⟨HE9.out, rfl, HT2.out.trans HT9.out (by simp)⟩

end Go.Proofs.YtcbkafbchpjnoaaGreatDoor
