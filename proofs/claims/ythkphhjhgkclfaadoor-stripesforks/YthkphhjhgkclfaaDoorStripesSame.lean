/-
  What the document's table tells BY CONTRACTS; two lists that are the same; same.
-/
import Derived.Test.YthkphhjhgkclfaaDoorStripesLive
import Derived.Test.YthkphhjhgkclfaaDoorStripesHeld
namespace Go.Proofs.YthkphhjhgkclfaaDoor
set_option linter.unusedVariables false
set_option linter.unusedSimpArgs false
open Go.RowKit

def wordP (ws : List Int) (s : Int) : Int × Int := if inS ws s then (wordAt ws s, 0) else (0, 2)

theorem tword_any {w : World} {b : Nat} {now : Int} {ws : List Int} (h : TObj w b now ws) (G : Good now ws) (s : Int) : Calls Tryd.prog 26 #[ptr b, .int .i64 s] w fun e w' => e = .returned (two (wordP ws s)) ∧ w = w' := by
  unfold wordP
  by_cases hs : inS ws s
  · rw [if_pos hs]; exact word_in h s hs G.le
  · rw [if_neg hs]; exact word_out h s hs

theorem rword_any {B : Nat} {w : World} {b : Nat} {vw : Value} {now : Int} {ws : List Int} (h : RObj B w b vw now ws) (G : Good now ws) (s : Int) : Calls Tryd.prog 27 #[ptr b, .int .i64 s] w fun e w' => e = .returned (two (wordP ws s)) ∧ w = w' := by
  unfold wordP
  obtain ⟨c0, _, _⟩ := h.cNow
  obtain ⟨g, cap, rfl, hc, _⟩ := h.words G.pos
  by_cases hs : inS ws s
  · rw [if_pos hs]
    have hm := may_in h G.pos s hs
    have h0 : 0 ≤ s := hs.1
    have h1 : s < ws.length := hs.2
    have ci := hc s.toNat (by omega)
    have e0 : ws.getD s.toNat 0 = wordAt ws s := rfl
    rw [e0] at ci
    generalize wordAt ws s = x at *
    clear h hc e0
    go_enter Tryd.func27, Tryd.ntmps27
    go_wp2_with fail
    refine hm.mono ?_
    rintro e w1 ⟨rfl, rfl⟩
    clear hm
    go_wp2
    go_ret2
    exact ⟨by simp, rfl⟩
  · rw [if_neg hs]
    have hm := may_out h G.pos s hs
    clear h hc
    go_enter Tryd.func27, Tryd.ntmps27
    go_wp2_with fail
    refine hm.mono ?_
    rintro e w1 ⟨rfl, rfl⟩
    clear hm
    go_wp2
    go_ret2
    exact ⟨by simp, rfl⟩

theorem ownerP_in {now : Int} {ws : List Int} (G : Good now ws) {s : Int} (hs : inS ws s) : ownerP ws s = if 0 ≤ (readP (wordAt ws s)).1 then ((readP (wordAt ws s)).1, true) else (0, false) := by
  unfold ownerP saysP
  rw [if_pos hs]
  simp [(G.at hs).2.1]
theorem ownerP_out {ws : List Int} {s : Int} (hs : ¬ inS ws s) : ownerP ws s = (0, false) := by
  unfold ownerP saysP
  rw [if_neg hs]
  simp

theorem rowner_ext {B : Nat} {w : World} {b : Nat} {vw : Value} {now : Int} {ws : List Int} (h : RObj B w b vw now ws) (G : Good now ws) (s : Int) : Calls Tryd.prog 28 #[ptr b, .int .i64 s] w fun e w' => e = .returned (.tuple #[.int .i64 (ownerP ws s).1, .bool (ownerP ws s).2]) ∧ w = w' := by
  obtain ⟨c0, _, _⟩ := h.cNow
  obtain ⟨g, cap, rfl, hc, _⟩ := h.words G.pos
  by_cases hs : inS ws s
  · rw [ownerP_in G hs]
    have hm := may_in h G.pos s hs
    have h0 : 0 ≤ s := hs.1
    have h1 : s < ws.length := hs.2
    have ci := hc s.toNat (by omega)
    have e0 : ws.getD s.toNat 0 = wordAt ws s := rfl
    rw [e0] at ci
    have hr := rread_any (wordAt ws s) (G.at hs).1 w
    generalize readP (wordAt ws s) = r at *
    generalize wordAt ws s = x at *
    obtain ⟨r1, r2, r3⟩ := r
    simp only at hr ⊢
    clear h hc e0
    by_cases h2 : 0 ≤ r1
    · have h2' : decide (r1 < 0) = false := decide_eq_false (by omega)
      rw [if_pos h2]
      go_enter Tryd.func28, Tryd.ntmps28
      go_wp2_with fail
      refine hm.mono ?_
      rintro e w1 ⟨rfl, rfl⟩
      clear hm
      go_wp2_with fail
      refine hr.mono ?_
      rintro e w1 ⟨rfl, rfl⟩
      clear hr
      go_wp2
      go_ret2
      exact ⟨by simp, rfl⟩
    · have h2' : r1 < 0 := by omega
      rw [if_neg h2]
      go_enter Tryd.func28, Tryd.ntmps28
      go_wp2_with fail
      refine hm.mono ?_
      rintro e w1 ⟨rfl, rfl⟩
      clear hm
      go_wp2_with fail
      refine hr.mono ?_
      rintro e w1 ⟨rfl, rfl⟩
      clear hr
      go_wp2
      go_ret2
      exact ⟨by simp, rfl⟩
  · rw [ownerP_out hs]
    have hm := may_out h G.pos s hs
    clear h hc
    go_enter Tryd.func28, Tryd.ntmps28
    go_wp2_with fail
    refine hm.mono ?_
    rintro e w1 ⟨rfl, rfl⟩
    clear hm
    go_wp2
    go_ret2
    exact ⟨by simp, rfl⟩

theorem rversion_ext {B : Nat} {w : World} {b : Nat} {vw : Value} {now : Int} {ws : List Int} (h : RObj B w b vw now ws) (G : Good now ws) (s : Int) : Calls Tryd.prog 29 #[ptr b, .int .i64 s] w fun e w' => e = .returned (.int .u64 (saysP ws s).2.1) ∧ w = w' := by
  unfold saysP
  obtain ⟨c0, _, _⟩ := h.cNow
  obtain ⟨g, cap, rfl, hc, _⟩ := h.words G.pos
  by_cases hs : inS ws s
  · rw [if_pos hs]
    have hm := may_in h G.pos s hs
    have h0 : 0 ≤ s := hs.1
    have h1 : s < ws.length := hs.2
    have ci := hc s.toNat (by omega)
    have e0 : ws.getD s.toNat 0 = wordAt ws s := rfl
    rw [e0] at ci
    have hr := rread_any (wordAt ws s) (G.at hs).1 w
    generalize readP (wordAt ws s) = r at *
    generalize wordAt ws s = x at *
    clear h hc e0
    go_enter Tryd.func29, Tryd.ntmps29
    go_wp2_with fail
    refine hm.mono ?_
    rintro e w1 ⟨rfl, rfl⟩
    clear hm
    go_wp2_with fail
    refine hr.mono ?_
    rintro e w1 ⟨rfl, rfl⟩
    clear hr
    go_wp2
    go_ret
    exact ⟨by simp, rfl⟩
  · rw [if_neg hs]
    have hm := may_out h G.pos s hs
    clear h hc
    go_enter Tryd.func29, Tryd.ntmps29
    go_wp2_with fail
    refine hm.mono ?_
    rintro e w1 ⟨rfl, rfl⟩
    clear hm
    go_wp2
    go_ret
    exact ⟨by simp, rfl⟩

theorem rclock_any {B : Nat} {w : World} {b : Nat} {vw : Value} {now : Int} {ws : List Int} (h : RObj B w b vw now ws) : Calls Tryd.prog 32 #[ptr b] w fun e w' => e = .returned (.int .u64 now) ∧ w = w' := by
  obtain ⟨_, c1, _⟩ := h.cNow
  clear h
  go_enter Tryd.func32, Tryd.ntmps32
  go_wp2
  go_ret
  exact ⟨by simp, rfl⟩

theorem rsize_any {B : Nat} {w : World} {b : Nat} {vw : Value} {now : Int} {ws : List Int} (h : RObj B w b vw now ws) (hp : 0 < ws.length) : Calls Tryd.prog 33 #[ptr b] w fun e w' => e = .returned (.int .i64 ws.length) ∧ w = w' := by
  obtain ⟨c0, _, _⟩ := h.cNow
  obtain ⟨g, cap, rfl, _⟩ := h.words hp
  clear h
  go_enter Tryd.func33, Tryd.ntmps33
  go_wp2
  go_ret
  exact ⟨by simp, rfl⟩

end Go.Proofs.YthkphhjhgkclfaaDoor
