/-
  package stripes' calls BY THEIR CONTRACTS: each does on words and clock what a plain function says.
-/
import Derived.Test.YthkphhjhgkclfaaDoorStripesBase
namespace Go.Proofs.YthkphhjhgkclfaaDoor
set_option linter.unusedVariables false
set_option linter.unusedSimpArgs false
open Go.RowKit

abbrev ptr (b : Nat) : Value := .pointer (some ⟨b, 0, none⟩)

theorem word_in {w : World} {b : Nat} {now : Int} {ws : List Int} (h : TObj w b now ws) (s : Int) (hs : inS ws s) (hl : ws.length ≤ 8) : Calls Tryd.prog 26 #[ptr b, .int .i64 s] w fun e w' => e = .returned (two (wordAt ws s, 0)) ∧ w = w' := by
  have c1 := h.cSize
  have c2 := h.cWord s.toNat (by unfold inS at hs; omega)
  obtain ⟨h0, h1⟩ := hs
  have h2 : ¬ s < 0 := by omega
  have h3 : ¬ (ws.length : Int) ≤ s := by omega
  have h4 : s < 8 := by omega
  unfold wordAt
  generalize ws.getD s.toNat 0 = x at *
  clear h
  go_enter Tryd.func26, Tryd.ntmps26
  go_wp2
  go_ret2
  exact ⟨by simp, rfl⟩

theorem word_out {w : World} {b : Nat} {now : Int} {ws : List Int} (h : TObj w b now ws) (s : Int) (hs : ¬ inS ws s) : Calls Tryd.prog 26 #[ptr b, .int .i64 s] w fun e w' => e = .returned (two (0, 2)) ∧ w = w' := by
  have c1 := h.cSize
  clear h
  by_cases h0 : s < 0
  · go_enter Tryd.func26, Tryd.ntmps26
    go_wp2
    go_ret2
    exact ⟨by simp, rfl⟩
  · have h1 : decide (s < 0) = false := decide_eq_false h0
    have h2 : (ws.length : Int) ≤ s := by unfold inS at hs; omega
    go_enter Tryd.func26, Tryd.ntmps26
    go_wp2
    go_ret2
    exact ⟨by simp, rfl⟩

/-- What says tells: the owner, the version, whether there is the stripe. -/
def saysP (ws : List Int) (s : Int) : Int × Int × Bool := if inS ws s then ((readP (wordAt ws s)).1, (readP (wordAt ws s)).2.1, (readP (wordAt ws s)).2.2 == 0) else (0, 0, false)

theorem says_any {w : World} {b : Nat} {now : Int} {ws : List Int} (h : TObj w b now ws) (G : Good now ws) (S : Sh w) (s : Int) : Calls Tryd.prog 34 #[ptr b, .int .i64 s] w fun e w' => e = .returned (.tuple #[.int .i64 (saysP ws s).1, .int .u64 (saysP ws s).2.1, .bool (saysP ws s).2.2]) ∧ Touch w w' [] := by
  unfold saysP
  by_cases hs : inS ws s
  · rw [if_pos hs]
    have hw := word_in h s hs G.le
    have hr := read_ext (wordAt ws s) (G.at hs).1 w S
    generalize readP (wordAt ws s) = r at *
    clear S h
    go_enter Tryd.func34, Tryd.ntmps34
    go_wp2_with fail
    refine hw.mono ?_
    rintro e w1 ⟨rfl, rfl⟩
    clear hw
    go_wp2_with fail
    refine hr.mono ?_
    rintro e w1 ⟨rfl, t1⟩
    clear hr
    go_wp2
    go_ret3
    exact ⟨by simp, t1⟩
  · rw [if_neg hs]
    have hw := word_out h s hs
    clear h
    go_enter Tryd.func34, Tryd.ntmps34
    go_wp2_with fail
    refine hw.mono ?_
    rintro e w1 ⟨rfl, rfl⟩
    clear hw
    go_wp2
    go_ret3
    exact ⟨by simp, Touch.refl _ _⟩

theorem version_any {w : World} {b : Nat} {now : Int} {ws : List Int} (h : TObj w b now ws) (G : Good now ws) (S : Sh w) (s : Int) : Calls Tryd.prog 12 #[ptr b, .int .i64 s] w fun e w' => e = .returned (.int .u64 (saysP ws s).2.1) ∧ Touch w w' [] := by
  have hr := says_any h G S s
  generalize saysP ws s = r at *
  clear S h
  go_enter Tryd.func12, Tryd.ntmps12
  go_wp2_with fail
  refine hr.mono ?_
  rintro e w1 ⟨rfl, t1⟩
  clear hr
  go_wp2
  go_ret
  exact ⟨by simp, t1⟩

/-- What Owner tells. -/
def ownerP (ws : List Int) (s : Int) : Int × Bool := if (saysP ws s).2.2 = true ∧ 0 ≤ (saysP ws s).1 then ((saysP ws s).1, true) else (0, false)

theorem owner_ext {w : World} {b : Nat} {now : Int} {ws : List Int} (h : TObj w b now ws) (G : Good now ws) (S : Sh w) (s : Int) : Calls Tryd.prog 15 #[ptr b, .int .i64 s] w fun e w' => e = .returned (.tuple #[.int .i64 (ownerP ws s).1, .bool (ownerP ws s).2]) ∧ Touch w w' [] := by
  unfold ownerP
  have hr := says_any h G S s
  generalize saysP ws s = r at *
  obtain ⟨r1, r2, r3⟩ := r
  clear S h
  simp only at hr ⊢
  cases r3 with
  | true =>
    by_cases h0 : 0 ≤ r1
    · have h1 : decide (r1 < 0) = false := decide_eq_false (by omega)
      rw [if_pos ⟨rfl, h0⟩]
      go_enter Tryd.func15, Tryd.ntmps15
      go_wp2_with fail
      refine hr.mono ?_
      rintro e w1 ⟨rfl, t1⟩
      clear hr
      go_wp2
      go_ret2
      exact ⟨by simp [h0], t1⟩
    · have h1 : r1 < 0 := by omega
      rw [if_neg (fun hh => h0 hh.2)]
      go_enter Tryd.func15, Tryd.ntmps15
      go_wp2_with fail
      refine hr.mono ?_
      rintro e w1 ⟨rfl, t1⟩
      clear hr
      go_wp2
      go_ret2
      exact ⟨by simp [h0], t1⟩
  | false =>
    rw [if_neg (fun hh => by cases hh.1)]
    go_enter Tryd.func15, Tryd.ntmps15
    go_wp2_with fail
    refine hr.mono ?_
    rintro e w1 ⟨rfl, t1⟩
    clear hr
    go_wp2
    go_ret2
    exact ⟨by simp, t1⟩

theorem size_any {w : World} {b : Nat} {now : Int} {ws : List Int} (h : TObj w b now ws) : Calls Tryd.prog 11 #[ptr b] w fun e w' => e = .returned (.int .i64 ws.length) ∧ w = w' := by
  have c1 := h.cSize
  clear h
  go_enter Tryd.func11, Tryd.ntmps11
  go_wp2
  go_ret
  exact ⟨by simp, rfl⟩

theorem clock_any {w : World} {b : Nat} {now : Int} {ws : List Int} (h : TObj w b now ws) : Calls Tryd.prog 13 #[ptr b] w fun e w' => e = .returned (.int .u64 now) ∧ w = w' := by
  have c1 := h.cNow
  clear h
  go_enter Tryd.func13, Tryd.ntmps13
  go_wp2
  go_ret
  exact ⟨by simp, rfl⟩

theorem tnew_ok (n : Nat) (h1 : 1 ≤ n) (h8 : n ≤ 8) (w : World) : Calls Tryd.prog 23 #[.int .i64 n] w fun e w' => e = .returned (ptr w.heap.size) ∧ TObj w' w.heap.size 0 (List.replicate n 0) ∧ Touch w w' [] ∧ w'.heap.size = w.heap.size + 1 := by
  have a1 : ¬ (n : Int) < 1 := by omega
  have a2 : ¬ (8 : Int) < n := by omega
  have HO : Hid (TObj (w.alloc (.cells #[.int .u64 0, .int .i64 n, .int .u64 0, .int .u64 0, .int .u64 0, .int .u64 0, .int .u64 0, .int .u64 0, .int .u64 0, .int .u64 0] 62)) w.heap.size 0 (List.replicate n 0)) := by
    refine ⟨?_⟩
    rw [heap_alloc_new]
    obtain rfl | rfl | rfl | rfl | rfl | rfl | rfl | rfl : n = 1 ∨ n = 2 ∨ n = 3 ∨ n = 4 ∨ n = 5 ∨ n = 6 ∨ n = 7 ∨ n = 8 := by omega
    all_goals rfl
  go_enter Tryd.func23, Tryd.ntmps23
  go_wp2
  go_ret
  exact ⟨rfl, HO.out, (Touch.refl _ _).alloc _, by simp⟩

end Go.Proofs.YthkphhjhgkclfaaDoor
