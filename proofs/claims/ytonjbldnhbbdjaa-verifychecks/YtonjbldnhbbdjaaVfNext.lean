/-
  package verify: isPlace, nexts BY THEIR CONTRACTS.
-/
import Derived.Test.YtonjbldnhbbdjaaVfReg
import Derived.Test.YtonjbldnhbbdjaaVfEff
namespace Go.Proofs.Ytonjbldnhbbdjaa
set_option linter.unusedVariables false
set_option linter.unusedSimpArgs false
open Go.RowKit
attribute [local go_sem] Oper.semAt_some

set_option maxRecDepth 100000 in
theorem place_any (ao : Option Addr) (N cap : Nat) (n : Int) (w : World) : Calls Try.prog 35 #[.slice ao N cap, .int .i64 n] w fun e w' => e = .returned (.bool (decide (0 ≤ n ∧ n < N))) ∧ w = w' := by
  by_cases h0 : 0 ≤ n
  · have e : decide (0 ≤ n ∧ n < (N : Int)) = decide (n < (N : Int)) := by simp [h0]
    rw [e]
    go_enter Try.func35, Try.ntmps35
    go_wp2
    go_ret
    exact ⟨rfl, rfl⟩
  · have e : decide (0 ≤ n ∧ n < (N : Int)) = false := by simp [h0]
    rw [e]
    go_enter Try.func35, Try.ntmps35
    go_wp2
    go_ret
    exact ⟨rfl, rfl⟩

theorem lit_own (w : World) (xs : List Int) (hx : xs.length ≤ 1000) : intOwnV (w.alloc (.cells (xs.map (Value.int .i64)).toArray 3)) w.heap.size (.slice (some ⟨w.heap.size, 0, none⟩) xs.length xs.length) xs := by
  refine ⟨by simp, .inr ⟨w.heap.size, xs.length, (xs.map (Value.int .i64)).toArray, rfl, Nat.le_refl _, heap_alloc_new w _, Nat.le_refl _, by unfold maxLen; omega, by simp, ?_⟩⟩
  rw [List.take_of_length_le (by simp)]

/-- Ways as they lie: the program, the numbers. -/
structure WAt (w : World) (b : Nat) (vl : Value) (gd N : Nat) (D : List Int) : Prop where
  st : w.heap[b]? = some (.cells #[vl, .slice (some ⟨gd, 0, none⟩) N N] 65 (0, 0))
  row : w.heap[gd]? = some (.cells (D.map (Value.int .i64)).toArray 3 (0, 0))
  len : D.length = N
theorem WAt.keep {w w' : World} {b : Nat} {vl : Value} {gd N : Nat} {D : List Int} (h : WAt w b vl gd N D) (t : Touch w w' []) : WAt w' b vl gd N D :=
  ⟨(t.block _ (lt_of_heap h.st) (by simp)).trans h.st, (t.block _ (lt_of_heap h.row) (by simp)).trans h.row, h.len⟩
theorem WAt.ne {w : World} {b : Nat} {vl : Value} {gd N : Nat} {D : List Int} (h : WAt w b vl gd N D) : b ≠ gd := fun e => by
  have := h.st
  rw [e, h.row] at this
  simp at this
theorem WAt.at {w : World} {b : Nat} {vl : Value} {gd N : Nat} {D : List Int} (h : WAt w b vl gd N D) (k : Nat) (hk : k < N) : w.cell? ⟨gd, k, none⟩ = some (.int .i64 (dAt D k)) := by
  unfold World.cell?
  rw [h.row]
  have : k < D.length := by rw [h.len]; exact hk
  simp [dAt, this]
theorem WAt.fz {w : World} {b : Nat} {vl : Value} {gd N : Nat} {D : List Int} (h : WAt w b vl gd N D) (k : Nat) : w.frozen? ⟨gd, k, none⟩ = false := by
  simp [World.frozen?, h.row]
theorem WAt.put {w : World} {b : Nat} {vl : Value} {gd N : Nat} {D : List Int} (h : WAt w b vl gd N D) (k : Nat) (x : Int) : WAt (w.setCell ⟨gd, k, none⟩ (.int .i64 x)) b vl gd N (D.set k x) := by
  have t : Touch w (w.setCell ⟨gd, k, none⟩ (.int .i64 x)) [gd] := (Touch.refl w [gd]).setCell (.inl (by simp)) _
  refine ⟨(t.block _ (lt_of_heap h.st) (by simpa using h.ne)).trans h.st, ?_, by simpa using h.len⟩
  rw [heap_setCell_same _ _ _ _ _ _ h.row, List.map_set]
  simp

set_option maxRecDepth 100000 in
set_option maxHeartbeats 1000000 in
theorem nexts_any {w : World} {b gd N cap : Nat} {ao : Option Addr} {D : List Int} {l : List InsD} (h : WAt w b (.slice ao N cap) gd N D) (hN : N = l.length) (hn : N ≤ 900) (hr : InsV w (.slice ao N cap) l) (k : Nat) (hk : k < N)
    (ha : opAt l k = 23 ∨ opAt l k = 24 → -1000 ≤ argAt l k ∧ argAt l k ≤ 1000) :
    Calls Try.prog 57 #[.pointer (some ⟨b, 0, none⟩), .int .i64 k] w fun e w' => ∃ ao' c', e = .returned (.slice ao' (nextV l k).length c') ∧ intOwnV w' w.heap.size (.slice ao' (nextV l k).length c') (nextV l k) ∧ Touch w w' [] := by
  have hr0 := hr
  rw [hN] at hr0
  obtain ⟨g, off, rfl, hg, c0, c1, c2⟩ := insv_at hr0 k (by omega)
  have d0 : w.cell? ⟨b, 0, none⟩ = some (.slice (some ⟨g, off, none⟩) N cap) := by unfold World.cell?; rw [h.st]; rfl
  have hkN : (k : Int) < N := by omega
  have hk0 : (0 : Int) ≤ k := by omega
  have hkw : IntKind.i64.wrap ((k : Int) + 1) = (k : Int) + 1 := by rw [IntKind.wrap_i64]; omega
  unfold nextV
  generalize opAt l k = o at *
  generalize argAt l k = a at *
  have haw : o = 23 ∨ o = 24 → IntKind.i64.wrap (a + 1) = a + 1 := fun q => by have := ha q; rw [IntKind.wrap_i64]; omega
  clear h hr hr0 hN ha c2
  rcases (show o = 19 ∨ o = 20 ∨ o = 23 ∨ o = 24 ∨ o = 26 ∨ o = 28 ∨ (o ≠ 19 ∧ o ≠ 20 ∧ o ≠ 23 ∧ o ≠ 24 ∧ o ≠ 26 ∧ o ≠ 28) by omega) with rfl | rfl | rfl | rfl | rfl | rfl | ⟨h1, h2, h3, h4, h5, h6⟩
  · clear haw
    go_enter Try.func57, Try.ntmps57
    go_wp2
    go_ret
    exact ⟨_, _, rfl, lit_own w [a] (by simp), (Touch.refl w []).alloc _⟩
  · clear haw
    go_enter Try.func57, Try.ntmps57
    go_wp2
    go_ret
    exact ⟨_, _, rfl, lit_own w [(k : Int) + 1, a] (by simp), (Touch.refl w []).alloc _⟩
  · have haw2 := haw (.inl rfl)
    clear haw
    go_enter Try.func57, Try.ntmps57
    go_wp2
    go_ret
    exact ⟨_, _, rfl, lit_own w [(k : Int) + 1, a + 1] (by simp), (Touch.refl w []).alloc _⟩
  · have haw2 := haw (.inr rfl)
    clear haw
    go_enter Try.func57, Try.ntmps57
    go_wp2
    go_ret
    exact ⟨_, _, rfl, lit_own w [a + 1] (by simp), (Touch.refl w []).alloc _⟩
  · clear haw
    go_enter Try.func57, Try.ntmps57
    go_wp2
    go_ret
    exact ⟨none, 0, rfl, World.ownsRow_nil _ _ _ _, Touch.refl w []⟩
  · clear haw
    go_enter Try.func57, Try.ntmps57
    go_wp2
    go_ret
    exact ⟨none, 0, rfl, World.ownsRow_nil _ _ _ _, Touch.refl w []⟩
  · clear haw
    have e : (if o = 19 then [a] else if o = 20 then [(k : Int) + 1, a] else if o = 23 then [(k : Int) + 1, a + 1] else if o = 24 then [a + 1] else if o = 26 ∨ o = 28 then [] else [(k : Int) + 1]) = [(k : Int) + 1] := by simp [*]
    rw [e]
    have b1 : (o == 19) = false := by simpa using h1
    have b2 : (o == 20) = false := by simpa using h2
    have b3 : (o == 23) = false := by simpa using h3
    have b4 : (o == 24) = false := by simpa using h4
    have b5 : (o == 26) = false := by simpa using h5
    have b6 : (o == 28) = false := by simpa using h6
    clear e
    go_enter Try.func57, Try.ntmps57
    go_wp2
    go_ret
    exact ⟨_, _, rfl, lit_own w [(k : Int) + 1] (by simp), (Touch.refl w []).alloc _⟩

end Go.Proofs.Ytonjbldnhbbdjaa
