/-
  package object: New and Takes BY THEIR CONTRACTS; package calls: Tvars, between, mayHave; the document's New, Takes, Tvars, Fits.
-/
import Derived.Test.YtcbkafbchpjnoaaGreatDoorClPlain
import Derived.Test.YtcbkafbchpjnoaaGreatDoorClJoin
namespace Go.Proofs.YtcbkafbchpjnoaaGreatDoor
set_option linter.unusedVariables false
set_option linter.unusedSimpArgs false
open Go.RowKit
attribute [local go_sem] Oper.semAt_some

/-- The type of a kind's thing. -/
def thT (k : Int) : Nat := if k = 1 then 142 else if k = 2 then 145 else if k = 3 then 148 else 151
def ThP (w : World) (k n : Int) (e : Ending) (w' : World) : Prop := (okO k n = true ∧ ∃ g, e = .returned (.iface (thT k) (.pointer (some ⟨g, 0, none⟩))) ∧ Touch w w' []) ∨ (okO k n = false ∧ e = .returned .nilIface ∧ Touch w w' [])

/-- How the numbers lie: which of these they are. -/
theorem size_ways (k n : Int) : (k = 1 ∧ n = 0) ∨ (k = 1 ∧ n ≠ 0) ∨ (k = 2 ∧ n < 0) ∨ (k = 2 ∧ 0 ≤ n ∧ n ≤ 9) ∨ (k = 2 ∧ 9 < n) ∨ (k = 3 ∧ n < 1) ∨ (k = 3 ∧ 1 ≤ n ∧ n ≤ 4) ∨ (k = 3 ∧ 4 < n) ∨ (k = 4 ∧ n < 1) ∨ (k = 4 ∧ 1 ≤ n ∧ n ≤ 4) ∨ (k = 4 ∧ 4 < n) ∨ (k ≠ 1 ∧ k ≠ 2 ∧ k ≠ 3 ∧ k ≠ 4) := by omega

set_option maxRecDepth 100000 in
theorem thing_any (k n : Int) (w : World) : Calls Tryz.prog 48 #[.int .u8 k, .int .i64 n] w (ThP w k n) := by
  rcases size_ways k n with ⟨rfl, rfl⟩ | ⟨rfl, h1⟩ | ⟨rfl, h1⟩ | ⟨rfl, h1, h2⟩ | ⟨rfl, h1⟩ | ⟨rfl, h1⟩ | ⟨rfl, h1, h2⟩ | ⟨rfl, h1⟩ | ⟨rfl, h1⟩ | ⟨rfl, h1, h2⟩ | ⟨rfl, h1⟩ | ⟨h1, h2, h3, h4⟩
  all_goals
    go_enter Tryz.func48, Tryz.ntmps48
    try have q1 : decide (0 ≤ n) = true := decide_eq_true (by omega)
    try have q1 : decide (0 ≤ n) = false := decide_eq_false (by omega)
    try have q2 : decide (n ≤ 9) = true := decide_eq_true (by omega)
    try have q2 : decide (n ≤ 9) = false := decide_eq_false (by omega)
    try have q3 : decide (1 ≤ n) = true := decide_eq_true (by omega)
    try have q3 : decide (1 ≤ n) = false := decide_eq_false (by omega)
    try have q4 : decide (n ≤ 4) = true := decide_eq_true (by omega)
    try have q4 : decide (n ≤ 4) = false := decide_eq_false (by omega)
    go_wp2
    first
    | (refine bodyPost_ret (v := .nilIface) (by simp [results, Tryz.results48, go_sem]) rfl (.inr ⟨?_, rfl, ?_⟩)
       · unfold okO; simp_all <;> omega
       · first | exact Touch.refl _ _ | exact (Touch.refl _ _).alloc _)
    | (go_ret
       refine .inl ⟨?_, w.heap.size, rfl, (Touch.refl _ _).alloc _⟩
       unfold okO; simp_all <;> omega)

/-- What an object's thing is. -/
def ThAt (w : World) (b : Nat) (k : Int) : Prop := b < w.heap.size ∧ ∃ g : Nat, w.cell? ⟨b, 0, none⟩ = some (.iface (thT k) (.pointer (some ⟨g, 0, none⟩)))
theorem ThAt.touch {w w' : World} {b : Nat} {k : Int} {S : List Nat} (h : ThAt w b k) (t : Touch w w' S) (hS : b ∉ S) : ThAt w' b k := by
  obtain ⟨hb, g, hc⟩ := h
  exact ⟨Nat.lt_of_lt_of_le hb t.size, g, (t.cell (p := ⟨b, 0, none⟩) hb hS).trans hc⟩
def OnP (w : World) (k n : Int) (e : Ending) (w' : World) : Prop := (okO k n = true ∧ ∃ b, e = .returned (.pointer (some ⟨b, 0, none⟩)) ∧ ThAt w' b k ∧ w.heap.size ≤ b ∧ Touch w w' []) ∨ (okO k n = false ∧ e = .returned (.pointer none) ∧ Touch w w' [])

set_option maxRecDepth 100000 in
theorem onew_any (k n : Int) (w : World) : Calls Tryz.prog 27 #[.int .u8 k, .int .i64 n] w (OnP w k n) := by
  have HC : HidC _ _ _ _ _ := ⟨thing_any k n w⟩
  go_enter Tryz.func27, Tryz.ntmps27
  go_wp2_with fail
  refine HC.out.mono ?_
  clear HC
  rintro e w1 (⟨h, g, rfl, t⟩ | ⟨h, rfl, t⟩)
  · have HA : Hid (ThAt (w1.alloc (.cells #[.iface (thT k) (.pointer (some ⟨g, 0, none⟩))] 101)) w1.heap.size k) := ⟨by simp, g, by unfold World.cell?; rw [heap_alloc_new]; rfl⟩
    have HT : Hid (Touch w (w1.alloc (.cells #[.iface (thT k) (.pointer (some ⟨g, 0, none⟩))] 101)) []) := t.alloc _
    have hs := t.size
    have HO : Hid _ := h
    clear t h
    generalize thT k = T at *
    go_wp2
    go_ret
    exact .inl ⟨HO.out, w1.heap.size, rfl, HA.out, hs, HT.out⟩
  · have HT : Hid _ := t
    have HO : Hid _ := h
    clear t h
    go_wp2
    exact bodyPost_ret (v := .pointer none) (by simp [results, Tryz.results27, go_sem]) rfl (.inr ⟨HO.out, rfl, HT.out⟩)

theorem takes_mutex (v : Value) (c : Int) (w : World) : Calls Tryz.prog 204 #[v, .int .u8 c] w fun e w' => e = .returned (.bool (decide (c = 1) || decide (c = 2))) ∧ w = w' := by
  by_cases h1 : c = 1 <;> by_cases h2 : c = 2
  all_goals
    go_enter Tryz.func204, Tryz.ntmps204
    go_wp2
    go_ret
    refine ⟨?_, rfl⟩
    congr 2
    try simp_all
theorem takes_sem (v : Value) (c : Int) (w : World) : Calls Tryz.prog 208 #[v, .int .u8 c] w fun e w' => e = .returned (.bool (decide (c = 3) || decide (c = 4))) ∧ w = w' := by
  by_cases h1 : c = 3 <;> by_cases h2 : c = 4
  all_goals
    go_enter Tryz.func208, Tryz.ntmps208
    go_wp2
    go_ret
    refine ⟨?_, rfl⟩
    congr 2
    try simp_all
theorem takes_queue (v : Value) (c : Int) (w : World) : Calls Tryz.prog 211 #[v, .int .u8 c] w fun e w' => e = .returned (.bool (decide (c = 5) || decide (c = 6))) ∧ w = w' := by
  by_cases h1 : c = 5 <;> by_cases h2 : c = 6
  all_goals
    go_enter Tryz.func211, Tryz.ntmps211
    go_wp2
    go_ret
    refine ⟨?_, rfl⟩
    congr 2
    try simp_all
theorem takes_bar (v : Value) (c : Int) (w : World) : Calls Tryz.prog 215 #[v, .int .u8 c] w fun e w' => e = .returned (.bool (decide (c = 7) || decide (c = 8))) ∧ w = w' := by
  by_cases h1 : c = 7 <;> by_cases h2 : c = 8
  all_goals
    go_enter Tryz.func215, Tryz.ntmps215
    go_wp2
    go_ret
    refine ⟨?_, rfl⟩
    congr 2
    try simp_all

set_option maxRecDepth 100000 in
theorem otakes_any {w : World} {b : Nat} {k : Int} (hk : k = 1 ∨ k = 2 ∨ k = 3 ∨ k = 4) (h : ThAt w b k) (c : Int) :
    Calls Tryz.prog 49 #[.pointer (some ⟨b, 0, none⟩), .int .u8 c] w fun e w' => e = .returned (.bool (tksP k c)) ∧ w = w' := by
  obtain ⟨hb, g, hc⟩ := h
  rcases hk with rfl | rfl | rfl | rfl
  · have hm : ∀ w : World, (method 98 142 (.pointer (some ⟨g, 0, none⟩)) "rowlock/object.takes").run Tryz.prog w = .ok (204, .pointer (some ⟨g, 0, none⟩)) w := fun _ => by kernel_rfl
    have hc : w.cell? ⟨b, 0, none⟩ = some (.iface 142 (.pointer (some ⟨g, 0, none⟩))) := hc
    go_enter Tryz.func49, Tryz.ntmps49
    go_wp2_with fail
    refine (takes_mutex _ c _).mono ?_
    rintro e w1 ⟨rfl, rfl⟩
    go_wp2
    go_ret
    exact ⟨rfl, rfl⟩
  · have hm : ∀ w : World, (method 98 145 (.pointer (some ⟨g, 0, none⟩)) "rowlock/object.takes").run Tryz.prog w = .ok (208, .pointer (some ⟨g, 0, none⟩)) w := fun _ => by kernel_rfl
    have hc : w.cell? ⟨b, 0, none⟩ = some (.iface 145 (.pointer (some ⟨g, 0, none⟩))) := hc
    go_enter Tryz.func49, Tryz.ntmps49
    go_wp2_with fail
    refine (takes_sem _ c _).mono ?_
    rintro e w1 ⟨rfl, rfl⟩
    go_wp2
    go_ret
    exact ⟨rfl, rfl⟩
  · have hm : ∀ w : World, (method 98 148 (.pointer (some ⟨g, 0, none⟩)) "rowlock/object.takes").run Tryz.prog w = .ok (211, .pointer (some ⟨g, 0, none⟩)) w := fun _ => by kernel_rfl
    have hc : w.cell? ⟨b, 0, none⟩ = some (.iface 148 (.pointer (some ⟨g, 0, none⟩))) := hc
    go_enter Tryz.func49, Tryz.ntmps49
    go_wp2_with fail
    refine (takes_queue _ c _).mono ?_
    rintro e w1 ⟨rfl, rfl⟩
    go_wp2
    go_ret
    exact ⟨rfl, rfl⟩
  · have hm : ∀ w : World, (method 98 151 (.pointer (some ⟨g, 0, none⟩)) "rowlock/object.takes").run Tryz.prog w = .ok (215, .pointer (some ⟨g, 0, none⟩)) w := fun _ => by kernel_rfl
    have hc : w.cell? ⟨b, 0, none⟩ = some (.iface 151 (.pointer (some ⟨g, 0, none⟩))) := hc
    go_enter Tryz.func49, Tryz.ntmps49
    go_wp2_with fail
    refine (takes_bar _ c _).mono ?_
    rintro e w1 ⟨rfl, rfl⟩
    go_wp2
    go_ret
    exact ⟨rfl, rfl⟩

theorem clbet_any (a b c : Int) (w : World) : Calls Tryz.prog 29 #[.int .i64 a, .int .i64 b, .int .i64 c] w fun e w' => e = .returned (.bool (decide (a ≤ b) && decide (b ≤ c))) ∧ w = w' := by
  by_cases h1 : a ≤ b <;> by_cases h2 : b ≤ c
  all_goals
    go_enter Tryz.func29, Tryz.ntmps29
    go_wp2
    go_ret
    refine ⟨?_, rfl⟩
    congr 2
    simp_all

set_option maxRecDepth 100000 in
theorem may_any (k v : Int) (hv : Wf64 v) (w : World) : Calls Tryz.prog 50 #[.int .u8 k, .int .u64 v] w fun e w' => e = .returned (.bool (fitC ⟨k, 0, v⟩)) ∧ Touch w w' [] := by
  unfold fitC
  simp only
  by_cases h : k = 5 ∨ k = 8
  · rw [if_pos h]
    have HC : HidC _ _ _ _ _ := ⟨right_any v w⟩
    rcases h with rfl | rfl
    all_goals
      go_enter Tryz.func50, Tryz.ntmps50
      go_wp2_with fail
      refine HC.out.mono ?_
      clear HC
      rintro e w1 ⟨rfl, t⟩
      subst t
      go_wp2
      go_ret
      exact ⟨rfl, Touch.refl _ _⟩
  · rw [if_neg h]
    have h5 : k ≠ 5 := fun e => h (.inl e)
    have h8 : k ≠ 8 := fun e => h (.inr e)
    clear h
    have k5 : (k == 5) = false := by simpa using h5
    have k8 : (k == 8) = false := by simpa using h8
    rcases Int.lt_trichotomy v 0 with hz | hz | hz
    · have hz2 : (v == 0) = false := by simp; omega
      have hz3 : decide (v = 0) = false := decide_eq_false (by omega)
      clear hz hv
      go_enter Tryz.func50, Tryz.ntmps50
      go_wp2
      go_ret
      exact ⟨by rw [hz3]; rfl, Touch.refl _ _⟩
    · subst hz
      go_enter Tryz.func50, Tryz.ntmps50
      go_wp2
      go_ret
      exact ⟨rfl, Touch.refl _ _⟩
    · have hz2 : (v == 0) = false := by simp; omega
      have hz3 : decide (v = 0) = false := decide_eq_false (by omega)
      clear hz hv
      go_enter Tryz.func50, Tryz.ntmps50
      go_wp2
      go_ret
      exact ⟨by rw [hz3]; rfl, Touch.refl _ _⟩

end Go.Proofs.YtcbkafbchpjnoaaGreatDoor
