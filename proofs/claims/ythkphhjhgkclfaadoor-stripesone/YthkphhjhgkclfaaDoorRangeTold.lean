/-
  A loop over a function that yields, whose body never leaves: what is kept between two rounds is told by how many places are behind. One law of our own over the record's laws.
-/
import Derived.Test.YthkphhjhgkclfaaDoorStripesIter
namespace Go.Proofs.YthkphhjhgkclfaaDoor
set_option linter.unusedVariables false
set_option linter.unusedSimpArgs false
open Go.RowKit Go.Shelf

/-- The record of the loop. -/
def recAt (fn : FuncId) (a : Act) (ps : Array Tmp) (assign body : Code) (D : Nat) (st : LoopState) : Loop := { state := st, pending := none, fn := fn, tmps := a.tmps, params := ps, assign := assign, body := body, defers := D }

/-- What is kept, and the loop's two blocks beside it. -/
def Kept (I : Nat → World → Prop) (r : Loop) (l D : Nat) (k : Nat) (W : World) : Prop := I k W ∧ W.heap[l]? = some (.loop r) ∧ W.heap[D]? = some (.deferred (some []))

theorem rangeFunc_told {P : Program} {n : Nat} {g : Operand} {ps : Array Tmp} {assign body : Code} {Q : Exit → Act → World → Prop} {a : Act} {w : World} (h1 : 1 ≤ n) {gf : Nat} {lb : Array Value}
    (hg : a.eval g = .func (.func gf) #[] lb) (eg : ∀ args w, (callFunc gf args).run P w = .ok (.enter gf args) w) (hps : ps.size = 1)
    (I : Nat → World → Prop) (len : Nat) (mine : Nat → Prop)
    (hput : ∀ k W l o o', I k W → w.heap.size ≤ l → W.heap[l]? = some o → o.isCells = false → I k (W.putObj l o')) (hnew : ∀ k W o, I k W → I k (W.alloc o))
    (h0 : I 0 w) (a₁ : Nat → Act)
    (hseq : ∀ (fn : FuncId) (W : World), Kept I (recAt fn a ps assign body w.heap.size .ready) (w.heap.size + 1) w.heap.size 0 W →
      (∀ k W, k < len → mine k → Kept I (recAt fn a ps assign body w.heap.size .ready) (w.heap.size + 1) w.heap.size k W → YieldAt Fence.wide (n - 1 - 1) P (w.heap.size + 1) #[.int .i64 k] W fun e W' => e = .returned (.bool true) ∧ Kept I (recAt fn a ps assign body w.heap.size .ready) (w.heap.size + 1) w.heap.size (k + 1) W') →
      CallsIn Fence.wide (n - 1) P gf (#[.func (.yield (w.heap.size + 1)) #[] #[]] ++ lb) W fun e W' => (∃ v, e = .returned v) ∧ Kept I (recAt fn a ps assign body w.heap.size .ready) (w.heap.size + 1) w.heap.size len W')
    (hassign : ∀ (l k : Nat) (W : World) (K : Act → World → Prop), K (a₁ k) W →
      assign.wpIn (Fence.wide.inRound l) (n - 1 - 1) P (Exit.then K (fun _ _ _ => False)) { tmps := (ps.zip #[.int .i64 (k : Int)]).foldl (fun t (p, v) => t.setIfInBounds p v) a.tmps, defers := [] } W)
    (hbody : ∀ (l k : Nat) (W : World), k < len → mine k → I k W → body.wpIn (Fence.wide.inRound l) (n - 1 - 1) P (fun e _ W' => e = .normal ∧ KeepsOthers W W' ∧ I (k + 1) W') (a₁ k) W)
    (hdone : ∀ (W : World), I len W → W.heap[w.heap.size]? = some (.deferred (some [])) → Q .normal { a with defers := { target := .collected w.heap.size, args := #[] } :: a.defers } W) :
    (Code.rangeFunc g ps assign body).wpIn Fence.wide n P Q a w := by
  refine wpIn_rangeFunc fun fn hfn => ?_
  obtain ⟨r0, hr0⟩ : ∃ r0, recAt fn a ps assign body w.heap.size .ready = r0 := ⟨_, rfl⟩
  have hs := hseq fn ((w.alloc (.deferred (some []))).alloc (.loop r0))
  rw [hr0] at hs
  have hk0 : ((w.alloc (.deferred (some []))).alloc (.loop r0)).heap[w.heap.size]? = some (.deferred (some [])) := (Below.heap_alloc _ _ _ (by simp)).trans (World.alloc_heap_new w _)
  have hl0 : ((w.alloc (.deferred (some []))).alloc (.loop r0)).heap[w.heap.size + 1]? = some (.loop r0) := by
    have := World.alloc_heap_new (w.alloc (.deferred (some []))) (.loop r0)
    rwa [World.size_alloc] at this
  refine ⟨w.heap.size + 1, [{ target := .collected w.heap.size, args := #[] }], (w.alloc (.deferred (some []))).alloc (.loop r0), { target := .fn (.func gf) lb, args := #[.func (.yield (w.heap.size + 1)) #[] #[]] }, (w.alloc (.deferred (some []))).alloc (.loop r0), gf,
    #[.func (.yield (w.heap.size + 1)) #[] #[]] ++ lb, (w.alloc (.deferred (some []))).alloc (.loop r0), ?_, ?_, ?_, ?_, fun _ => h1, ?_⟩
  · rw [← hr0]; exact run_enterLoop_outer _ _ _ _ _
  · simp only [resolve, hg]
    simp [go_sem]
  · intro f' hf'; trivial
  · simp [invoke, go_sem, eg]
  · refine (hs ⟨hnew _ _ _ (hnew _ _ _ h0), hl0, hk0⟩ ?_).mono ?_
    · rintro k W hk hm ⟨hi, hl, hd⟩
      have hlt : w.heap.size + 1 < W.heap.size := (Array.getElem?_eq_some_iff.1 hl).1
      have hy := run_yield (P := P) (args := #[.int .i64 (k : Int)]) hl (by rw [← hr0]; simp [recAt, hps])
      refine ⟨_, _, _, _, hy, roundIn_of_wpIn (by trivial) ?_⟩
      have hbe := run_beginRound (P := P) hl (by rw [← hr0]; rfl)
      subst hr0
      refine hassign _ k W _ ⟨_, hbe, ?_⟩
      have hl2 : (W.putObj (w.heap.size + 1) (.loop { recAt fn a ps assign body w.heap.size .ready with state := .busy })).heap[w.heap.size + 1]? = some (.loop { recAt fn a ps assign body w.heap.size .ready with state := .busy }) := World.putObj_heap_same hlt
      have hd2 : (W.putObj (w.heap.size + 1) (.loop { recAt fn a ps assign body w.heap.size .ready with state := .busy })).heap[w.heap.size]? = some (.deferred (some [])) := (World.putObj_heap_other (by omega)).trans hd
      refine wpIn_mono (hbody _ k _ hk hm (hput _ _ _ _ _ hi (by omega) hl rfl)) ?_
      rintro e a3 W3 ⟨rfl, hko, hi3⟩
      have hl3 := hko.same _ _ hl2 rfl
      have hd3 := hko.same _ _ hd2 rfl
      have hen := run_endRound (P := P) none hl3
      exact ⟨_, _, hen, rfl, hput _ _ _ _ _ hi3 (by omega) hl3 rfl, World.putObj_heap_same (Array.getElem?_eq_some_iff.1 hl3).1, (World.putObj_heap_other (by omega)).trans hd3⟩
    · rintro e W2 ⟨⟨v, rfl⟩, hi, hl, hd⟩
      have hen := run_endLoop (P := P) hl (by rw [← hr0]; simp [recAt])
      have hp : r0.pending = none := by rw [← hr0]; rfl
      rw [hp] at hen
      exact ⟨none, _, hen, hdone _ (hput _ _ _ _ _ hi (by omega) hl rfl) ((World.putObj_heap_other (by omega)).trans hd)⟩

end Go.Proofs.YthkphhjhgkclfaaDoor
