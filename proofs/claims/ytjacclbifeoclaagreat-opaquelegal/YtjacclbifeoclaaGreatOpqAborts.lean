/-
  OpaqueAborts, THE WALK.
-/
import Derived.Test.YtjacclbifeoclaaGreatOpqAbPl
import Derived.Test.YtjacclbifeoclaaGreatOpqLive
import Derived.Test.YtjacclbifeoclaaGreatOpqFew
import Derived.Test.YtjacclbifeoclaaGreatHistWrites
namespace Go.Proofs.YtjacclbifeoclaaGreat
set_option linter.unusedVariables false
set_option linter.unusedSimpArgs false
open Go.RowKit Go.Maps
attribute [local go_sem] Oper.semAt_some

/-- A box of two slices. -/
abbrev Box2 (w : World) (b : Nat) (x y : Value) : Prop := w.heap[b]? = some (.cells #[x, y] 26 (0, 0))
theorem Box2.cells {w : World} {b : Nat} {x y : Value} (h : Box2 w b x y) : w.cell? ⟨b, 0, none⟩ = some x ∧ w.cell? ⟨b, 1, none⟩ = some y := by
  refine ⟨?_, ?_⟩ <;> simp [World.cell?, h]
theorem Box2.frozen {w : World} {b : Nat} {x y : Value} (h : Box2 w b x y) (k : Nat) : w.frozen? ⟨b, k, none⟩ = false := by simp [World.frozen?, h]
theorem Box2.touch {w w' : World} {b : Nat} {x y : Value} {S : List Nat} (h : Box2 w b x y) (t : Touch w w' S) (hS : b ∉ S) : Box2 w' b x y := (t.block _ (lt_of_heap h) hS).trans h
theorem Box2.set0 {w : World} {b : Nat} {x y : Value} (h : Box2 w b x y) (v : Value) : Box2 (w.setCell ⟨b, 0, none⟩ v) b v y := by
  have := heap_setCell_same w b 0 _ _ v h
  simpa using this
theorem Box2.set1 {w : World} {b : Nat} {x y : Value} (h : Box2 w b x y) (v : Value) : Box2 (w.setCell ⟨b, 1, none⟩ v) b x v := by
  have := heap_setCell_same w b 1 _ _ v h
  simpa using this

theorem min_cut {n m c : Nat} (h : n ≤ c) : min m n ≤ c := by omega

set_option maxRecDepth 100000 in
set_option maxHeartbeats 4000000 in
theorem oright_any (aL aC : Option Addr) (nL cL nC cC : Nat) (hL : nL ≤ cL) (hC : nC ≤ cC) (w : World) :
    Calls Tryz.prog 6 #[.agg #[.slice aL nL cL, .slice aC nC cC]] w fun e w' => e = .returned (.agg #[.slice aL (min 12 nL) cL, .slice aC (min 6 nC) cC]) ∧ Touch w w' [] := by
  by_cases h1 : 12 < nL
  · by_cases h2 : 6 < nC
    · skip
      have e1 : min 12 nL = 12 := by omega
      have e2 : min 6 nC = 6 := by omega
      rw [e1, e2]
      have q1 : (12 : Int) < nL := by omega
      have q2 : (6 : Int) < nC := by omega
      have q3 : (12 : Int) ≤ cL := by omega
      have q4 : (6 : Int) ≤ cC := by omega
      clear e1 e2
      go_enter Tryz.func6, Tryz.ntmps6
      go_wp2
      refine bodyPost_ret (v := .agg #[.slice aL 12 cL, .slice aC 6 cC]) ?_ rfl ⟨rfl, by repeat (first | exact Touch.refl _ _ | apply Touch.drew | apply Touch.alloc | (refine Touch.setCell ?_ (.inr (by simp)) _))⟩
      simp [results, Tryz.results6, go_sem]
    · skip
      have e1 : min 12 nL = 12 := by omega
      have e2 : min 6 nC = nC := by omega
      rw [e1, e2]
      have q1 : (12 : Int) < nL := by omega
      have q2 : ¬ (6 : Int) < nC := by omega
      have q3 : (12 : Int) ≤ cL := by omega
      have q4 : (nC : Int) ≤ cC := by omega
      clear e1 e2
      go_enter Tryz.func6, Tryz.ntmps6
      go_wp2
      refine bodyPost_ret (v := .agg #[.slice aL 12 cL, .slice aC nC cC]) ?_ rfl ⟨rfl, by repeat (first | exact Touch.refl _ _ | apply Touch.drew | apply Touch.alloc | (refine Touch.setCell ?_ (.inr (by simp)) _))⟩
      simp [results, Tryz.results6, go_sem]
  · by_cases h2 : 6 < nC
    · skip
      have e1 : min 12 nL = nL := by omega
      have e2 : min 6 nC = 6 := by omega
      rw [e1, e2]
      have q1 : ¬ (12 : Int) < nL := by omega
      have q2 : (6 : Int) < nC := by omega
      have q3 : (nL : Int) ≤ cL := by omega
      have q4 : (6 : Int) ≤ cC := by omega
      clear e1 e2
      go_enter Tryz.func6, Tryz.ntmps6
      go_wp2
      refine bodyPost_ret (v := .agg #[.slice aL nL cL, .slice aC 6 cC]) ?_ rfl ⟨rfl, by repeat (first | exact Touch.refl _ _ | apply Touch.drew | apply Touch.alloc | (refine Touch.setCell ?_ (.inr (by simp)) _))⟩
      simp [results, Tryz.results6, go_sem]
    · skip
      have e1 : min 12 nL = nL := by omega
      have e2 : min 6 nC = nC := by omega
      rw [e1, e2]
      have q1 : ¬ (12 : Int) < nL := by omega
      have q2 : ¬ (6 : Int) < nC := by omega
      have q3 : (nL : Int) ≤ cL := by omega
      have q4 : (nC : Int) ≤ cC := by omega
      clear e1 e2
      go_enter Tryz.func6, Tryz.ntmps6
      go_wp2
      refine bodyPost_ret (v := .agg #[.slice aL nL cL, .slice aC nC cC]) ?_ rfl ⟨rfl, by repeat (first | exact Touch.refl _ _ | apply Touch.drew | apply Touch.alloc | (refine Touch.setCell ?_ (.inr (by simp)) _))⟩
      simp [results, Tryz.results6, go_sem]

theorem takeN_len {α : Type} (l : List α) (m : Nat) : (l.take m).length = min m l.length := by simp


end Go.Proofs.YtjacclbifeoclaaGreat
