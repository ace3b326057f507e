/-
  TopAwake: who waits, as plain data. No walk.
-/
import Derived.Test.YteffdibdnoppjabWtWake
namespace Go.Proofs.Yteffdibdnoppjab
set_option linter.unusedVariables false
set_option linter.unusedSimpArgs false
open Go.RowKit Go.Maps

def awD (a c : Nat → Int) (s : Nat → Bool) (i : Nat) : WD := ⟨(i : Int), setP [a i, c i], s i⟩
def awL (a c : Nat → Int) (s : Nat → Bool) (j : Nat) : List WD := (List.range j).map (awD a c s)
theorem awL_snoc (a c : Nat → Int) (s : Nat → Bool) (j : Nat) : awL a c s (j + 1) = awL a c s j ++ [awD a c s j] := by
  unfold awL; rw [List.range_succ, List.map_append]; rfl
theorem awL_none (a c : Nat → Int) (s : Nat → Bool) (j : Nat) : findW (awL a c s j) (j : Int) = none := by
  rw [findW_none]
  intro h
  obtain ⟨x, hx, e⟩ := List.mem_map.1 h
  obtain ⟨i, hi, rfl⟩ := List.mem_map.1 hx
  have h1 := List.mem_range.1 hi
  have : (i : Int) = (j : Int) := e
  omega
theorem two_no {x y : Int} (hx : 0 ≤ x ∧ x < 12) (hy : 0 ≤ y ∧ y < 12) : [x, y].any noT = false := by
  have h1 : noT x = false := by simp [noT]; omega
  have h2 : noT y = false := by simp [noT]; omega
  simp [h1, h2]
theorem aw_reg {a c : Nat → Int} (s : Nat → Bool) {j : Nat} (hj : j < 4) (ha : 0 ≤ a j ∧ a j < 12) (hc : 0 ≤ c j ∧ c j < 12) : regE (awL a c s j) (j : Int) [a j, c j] = (0, awL a c s j ++ [⟨(j : Int), setP [a j, c j], false⟩]) := by
  unfold regE
  rw [if_neg (by rw [two_no ha hc]; simp [noTh]; omega), if_neg (by simp), if_neg (by rw [awL_none]; simp)]
theorem aw_sleep {L : List WD} {t : Int} {S : Nat} (hf : findW L t = none) (ht : 0 ≤ t ∧ t < 4) : sleepE (L ++ [⟨t, S, false⟩]) t = (0, L ++ [⟨t, S, true⟩]) := by
  have h1 := find_app (x := ⟨t, S, false⟩) hf t
  rw [if_pos rfl] at h1
  unfold sleepE
  rw [if_neg (by simp [noTh]; omega), if_neg (by unfold slP; rw [h1]; simp)]
  congr 1
  unfold slept
  rw [List.map_append]
  congr 1
  · refine (List.map_congr_left fun y hy => ?_).trans (List.map_id _)
    have : y.th ≠ t := fun e => (findW_none.1 hf) (e ▸ List.mem_map.2 ⟨y, hy, rfl⟩)
    rw [if_neg this]
    rfl
  · simp
def hitA (ws : List Int) (x y : Int) : Bool := ws.any (fun w => w == x || w == y)
theorem hitA_snoc {ws : List Int} {k : Nat} (hk : k < ws.length) (x y : Int) : hitA (ws.take (k + 1)) x y = (hitA (ws.take k) x y || (ws[k] == x || ws[k] == y)) := by
  unfold hitA
  rw [List.take_succ_eq_append_getElem hk, List.any_append]
  simp
theorem hitA_set {ws : List Int} {x y : Int} (hx : 0 ≤ x ∧ x < 12) (hy : 0 ≤ y ∧ y < 12) : hitA ws x y = decide (setP [x, y] &&& setP ws ≠ 0) := by
  rw [Bool.eq_iff_iff, decide_eq_true_eq, ne_eq, and_zero]
  unfold hitA
  rw [List.any_eq_true]
  constructor
  · rintro ⟨v, hv, h⟩ hno
    have hv2 : v = x ∨ v = y := by simpa using h
    have hr : 0 ≤ v ∧ v < 12 := by rcases hv2 with rfl | rfl <;> assumption
    refine hno v.toNat ⟨?_, ?_⟩
    · rw [setP_bit _ _ (by omega), Int.toNat_of_nonneg hr.1]
      simpa using hv2
    · rw [setP_bit _ _ (by omega), Int.toNat_of_nonneg hr.1]
      simpa using hv
  · intro hno
    have : ∃ i, (setP [x, y]).testBit i = true ∧ (setP ws).testBit i = true := Classical.byContradiction fun hc => hno fun i hi => hc ⟨i, hi⟩
    obtain ⟨i, h1, h2⟩ := this
    have hi : i < 12 := by
      refine Nat.lt_of_not_le fun hge => ?_
      have : (setP ws).testBit i = false := Nat.testBit_lt_two_pow (Nat.lt_of_lt_of_le (setP_lt ws) (Nat.pow_le_pow_right (n := 2) (i := 12) (by decide) hge))
      rw [this] at h2
      cases h2
    rw [setP_bit _ _ hi] at h1 h2
    exact ⟨(i : Int), by simpa using h2, by simpa using h1⟩
theorem list_pos {s : Nat} (h : s ≠ 0) (hs : s < 4096) : 0 < (listP s).length := by
  refine List.length_pos_iff.2 fun e => h ?_
  refine Nat.eq_of_testBit_eq fun i => ?_
  rw [Nat.zero_testBit]
  by_cases hi : i < 12
  · cases hb : s.testBit i with
    | false => rfl
    | true =>
      have : (Int.ofNat i) ∈ listP s := List.mem_map.2 ⟨i, List.mem_filter.2 ⟨List.mem_range.2 hi, hb⟩, rfl⟩
      rw [e] at this
      cases this
  · exact Nat.testBit_lt_two_pow (Nat.lt_of_lt_of_le hs (Nat.pow_le_pow_right (n := 2) (i := 12) (by decide) (by omega)))
theorem two_pos {x y : Int} (hx : 0 ≤ x ∧ x < 12) (hy : 0 ≤ y ∧ y < 12) : setP [x, y] ≠ 0 := setP_pos (two_no hx hy) (by simp)

theorem aw_end {a c : Nat → Int} {s : Nat → Bool} (hw : WWf (awL a c s 4)) (hw2 : ∀ S, WWf (wakeL (awL a c s 4) S)) (ws : List Int) {i : Nat} (hi : i < 4) (ha : 0 ≤ a i ∧ a i < 12) (hc : 0 ≤ c i ∧ c i < 12) :
    ((listP (ofP (wakeL (awL a c s 4) (setP ws)) (i : Int))).length = 0 ↔ hitA ws (a i) (c i) = true) ∧ slP (wakeL (awL a c s 4) (setP ws)) (i : Int) = (s i && !hitA ws (a i) (c i)) := by
  have hm : awD a c s i ∈ awL a c s 4 := List.mem_map.2 ⟨i, List.mem_range.2 hi, rfl⟩
  have hh := hitA_set (ws := ws) ha hc
  by_cases h0 : setP [a i, c i] &&& setP ws = 0
  · have hm2 : awD a c s i ∈ wakeL (awL a c s 4) (setP ws) := List.mem_filter.2 ⟨hm, decide_eq_true h0⟩
    have hf : findW (wakeL (awL a c s 4) (setP ws)) (i : Int) = some (awD a c s i) := findW_mem (hw2 _).nod hm2
    have h1 : hitA ws (a i) (c i) = false := by rw [hh]; simp [h0]
    have e1 : ofP (wakeL (awL a c s 4) (setP ws)) (i : Int) = setP [a i, c i] := by unfold ofP; rw [hf]; rfl
    have e2 : slP (wakeL (awL a c s 4) (setP ws)) (i : Int) = s i := by unfold slP; rw [hf]; rfl
    rw [e1, e2, h1]
    have := list_pos (two_pos ha hc) (setP_lt _)
    refine ⟨⟨fun h => by omega, fun h => by cases h⟩, by simp⟩
  · have hf : findW (wakeL (awL a c s 4) (setP ws)) (i : Int) = none := by
      rw [findW_none]
      intro hm2
      obtain ⟨x, hx, e⟩ := List.mem_map.1 hm2
      have hx1 := List.mem_filter.1 hx
      have h5 := findW_mem hw.nod hx1.1
      have h6 : findW (awL a c s 4) (i : Int) = some (awD a c s i) := findW_mem hw.nod hm
      rw [e, h6] at h5
      have h7 : awD a c s i = x := by simpa using h5
      rw [← h7] at hx1
      exact h0 (of_decide_eq_true hx1.2)
    have h1 : hitA ws (a i) (c i) = true := by rw [hh]; simp [h0]
    have e1 : ofP (wakeL (awL a c s 4) (setP ws)) (i : Int) = 0 := by unfold ofP; rw [hf]; rfl
    have e2 : slP (wakeL (awL a c s 4) (setP ws)) (i : Int) = false := by unfold slP; rw [hf]; rfl
    rw [e1, e2, h1]
    exact ⟨⟨fun _ => rfl, fun _ => rfl⟩, by simp⟩

theorem aw_all {a c : Nat → Int} {s : Nat → Bool} (hw : WWf (awL a c s 4)) (ws : List Int) (ha : ∀ i, 0 ≤ a i ∧ a i < 12) (hc : ∀ i, 0 ≤ c i ∧ c i < 12) :
    ∃ LW, LW = wakeL (awL a c s 4) (setP ws) ∧ ∀ i : Nat, i < 4 → ∃ ol, ol = listP (ofP LW (i : Int)) ∧ (ol.length = 0 ↔ hitA ws (a i) (c i) = true) ∧ slP LW (i : Int) = (s i && !hitA ws (a i) (c i)) :=
  ⟨_, rfl, fun i hi => ⟨_, rfl, aw_end hw (fun S => by rw [← outP_wake hw]; exact outP_wf hw _) ws hi (ha i) (hc i)⟩⟩

end Go.Proofs.Yteffdibdnoppjab
