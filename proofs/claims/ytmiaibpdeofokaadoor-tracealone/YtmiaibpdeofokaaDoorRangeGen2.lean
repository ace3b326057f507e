/-
  A loop over a function that yields two values, and writes between: a law of our own.
-/
import Derived.Test.YtmiaibpdeofokaaDoorAllA
namespace Go.Proofs.YtmiaibpdeofokaaDoor
set_option linter.unusedVariables false
set_option linter.unusedSimpArgs false
open Go.RowKit Go.Shelf

/-- Blocks of cells of a type are as they were. -/
def KeepsE (E : TypeId) (W W' : World) : Prop := ∀ (g : Nat) (cs : Array Value) (fr : Nat × Nat), W.heap[g]? = some (Obj.cells cs E fr) → W'.heap[g]? = some (Obj.cells cs E fr)
theorem KeepsE.refl (E : TypeId) (W : World) : KeepsE E W W := fun _ _ _ h => h
theorem KeepsE.trans {E : TypeId} {W W1 W2 : World} (h : KeepsE E W W1) (k : KeepsE E W1 W2) : KeepsE E W W2 := fun g cs fr e => k g cs fr (h g cs fr e)
theorem KeepsE.alloc {E : TypeId} (W : World) (o : Obj) : KeepsE E W (W.alloc o) := fun g cs fr h => (Below.heap_alloc _ _ _ (lt_of_heap h)).trans h
theorem KeepsE.putObj {E : TypeId} {W : World} {l : Nat} {r : Loop} (h : W.heap[l]? = some (.loop r)) (o : Obj) : KeepsE E W (W.putObj l o) := fun g cs fr e => by
  have hne : g ≠ l := fun q => by rw [q, h] at e; cases e
  exact (World.putObj_heap_other hne).trans e
theorem KeepsE.touch {E : TypeId} {W W' : World} {S : List Nat} (t : Touch W W' S) (hS : ∀ x ∈ S, ∀ (cs : Array Value) (fr : Nat × Nat), W.heap[x]? ≠ some (Obj.cells cs E fr)) : KeepsE E W W' := fun g cs fr e => (t.block g (lt_of_heap e) (fun hs => hS g hs cs fr e)).trans e

def YPostE (E : TypeId) (J : Nat → World → Prop) (X : World → Prop) (k : Nat) (W : World) (e : Ending) (W' : World) : Prop := (e = .returned (.bool true) ∧ J (k + 1) W' ∧ KeepsE E W W') ∨ (e = .returned (.bool false) ∧ X W')
def BPostE (E : TypeId) (I : Nat → World → Prop) (X : World → Prop) (oid : Option Nat) (W : World) (k : Nat) (e : Exit) (_ : Act) (W' : World) : Prop := KeepsOthers W W' ∧ ((e = .normal ∧ I (k + 1) W' ∧ KeepsE E W W') ∨ (e = jE oid ∧ X W'))

/-- .. where two values are yielded, what goes through them writes between, and its rows of type E are kept. -/
theorem rangeFunc_evs {P : Program} {n : Nat} {g : Operand} {ps : Array Tmp} {assign body : Code} {Q : Exit → Act → World → Prop} {a : Act} {w : World} (h1 : 1 ≤ n) {gf : Nat} {lb : Array Value}
    (hg : a.eval g = .func (.func gf) #[] lb) (eg : ∀ args w, (callFunc gf args).run P w = .ok (.enter gf args) w) (vals : Nat → Array Value) (hps : ∀ k, ps.size = (vals k).size) (oid : Option Nat) (E : TypeId) (ok : Nat → Prop)
    (I : Nat → World → Prop) (X : World → Prop) (len : Nat)
    (hput : ∀ k W l o o', I k W → (l = w.heap.size ∨ l = w.heap.size + 1) → W.heap[l]? = some o → o.isCells = false → I k (W.putObj l o'))
    (hputX : ∀ W l o o', X W → (l = w.heap.size ∨ l = w.heap.size + 1) → W.heap[l]? = some o → o.isCells = false → X (W.putObj l o')) (hnew : ∀ k W o, I k W → I k (W.alloc o))
    (h0 : I 0 w) (a₁ : Nat → Nat → Act) (ob : Nat → Obj)
    (hseq : ∀ (J : Nat → World → Prop) (Y : World → Prop) (W : World), (∀ k W, J k W → I k W) → (∀ k k' W W' S, J k W → I k' W' → Touch W W' S → w.heap.size ∉ S → w.heap.size + 1 ∉ S → J k' W') → W.heap.size = w.heap.size + 2 → J 0 W → (∀ k W, ok k → J k W → YieldAt Fence.wide (n - 1 - 1) P (w.heap.size + 1) (vals k) W (YPostE E J Y k W)) →
      CallsIn Fence.wide (n - 1) P gf (#[.func (.yield (w.heap.size + 1)) #[] #[]] ++ lb) W fun e W' => (∃ v, e = .returned v) ∧ (J len W' ∨ Y W'))
    (hassign : ∀ (l k : Nat) (W : World) (K : Act → World → Prop), K (a₁ k W.heap.size) (W.alloc (ob k)) →
      assign.wpIn (Fence.wide.inRound l) (n - 1 - 1) P (Exit.then K (fun _ _ _ => False)) { tmps := (ps.zip (vals k)).foldl (fun t (p, v) => t.setIfInBounds p v) a.tmps, defers := [] } W)
    (hbody : ∀ (l k s : Nat) (W : World), ok k → I k W → W.heap[s]? = some (ob k) → w.heap.size + 2 ≤ s → body.wpIn (Fence.wide.inRound l) (n - 1 - 1) P (BPostE E I X oid W k) (a₁ k s) W)
    (hdone : ∀ (W : World), I len W → W.heap[w.heap.size]? = some (.deferred (some [])) → Q .normal { a with defers := { target := .collected w.heap.size, args := #[] } :: a.defers } W)
    (hleft : ∀ (W : World), X W → W.heap[w.heap.size]? = some (.deferred (some [])) → (jC oid).wpIn Fence.wide n P Q { a with defers := { target := .collected w.heap.size, args := #[] } :: a.defers } W) :
    (Code.rangeFunc g ps assign body).wpIn Fence.wide n P Q a w := by
  refine wpIn_rangeFunc fun fn hfn => ?_
  obtain ⟨r0, hr0⟩ : ∃ r0, recAt fn a ps assign body w.heap.size .ready none = r0 := ⟨_, rfl⟩
  obtain ⟨rx, hrx⟩ : ∃ rx, recAt fn a ps assign body w.heap.size .done (some (jC oid)) = rx := ⟨_, rfl⟩
  have hk0 : ((w.alloc (.deferred (some []))).alloc (.loop r0)).heap[w.heap.size]? = some (.deferred (some [])) := (Below.heap_alloc _ _ _ (by simp)).trans (World.alloc_heap_new w _)
  have hl0 : ((w.alloc (.deferred (some []))).alloc (.loop r0)).heap[w.heap.size + 1]? = some (.loop r0) := by
    have := World.alloc_heap_new (w.alloc (.deferred (some []))) (.loop r0)
    rwa [World.size_alloc] at this
  have hs := hseq (Kept I r0 (w.heap.size + 1) w.heap.size) (LeftX X rx (w.heap.size + 1) w.heap.size) ((w.alloc (.deferred (some []))).alloc (.loop r0))
    (fun k W h => h.1) (fun k k' W W' S h hi t hs1 hs2 => ⟨hi, (t.block _ (lt_of_heap h.2.1) hs2).trans h.2.1, (t.block _ (lt_of_heap h.2.2) hs1).trans h.2.2⟩) (by simp) ⟨hnew _ _ _ (hnew _ _ _ h0), hl0, hk0⟩ ?_
  · refine ⟨w.heap.size + 1, [{ target := .collected w.heap.size, args := #[] }], (w.alloc (.deferred (some []))).alloc (.loop r0), { target := .fn (.func gf) lb, args := #[.func (.yield (w.heap.size + 1)) #[] #[]] }, (w.alloc (.deferred (some []))).alloc (.loop r0), gf,
      #[.func (.yield (w.heap.size + 1)) #[] #[]] ++ lb, (w.alloc (.deferred (some []))).alloc (.loop r0), ?_, ?_, ?_, ?_, fun _ => h1, ?_⟩
    · rw [← hr0]; exact run_enterLoop_outer _ _ _ _ _
    · simp only [resolve, hg]
      simp [go_sem]
    · intro f' hf'; trivial
    · simp [invoke, go_sem, eg]
    · refine hs.mono ?_
      rintro e W2 ⟨⟨v, rfl⟩, (⟨hi, hl, hd⟩ | ⟨hx, hl, hd⟩)⟩
      · have hen := run_endLoop (P := P) hl (by rw [← hr0]; simp [recAt])
        have hp : r0.pending = none := by rw [← hr0]; rfl
        rw [hp] at hen
        exact ⟨none, _, hen, hdone _ (hput _ _ _ _ _ hi (.inr rfl) hl rfl) ((World.putObj_heap_other (by omega)).trans hd)⟩
      · have hen := run_endLoop (P := P) hl (by rw [← hrx]; simp [recAt])
        have hp : rx.pending = some (jC oid) := by rw [← hrx]; rfl
        rw [hp] at hen
        exact ⟨some (jC oid), _, hen, hleft _ (hputX _ _ _ _ hx (.inr rfl) hl rfl) ((World.putObj_heap_other (by omega)).trans hd)⟩
  · rintro k W hk ⟨hi, hl, hd⟩
    have hlt : w.heap.size + 1 < W.heap.size := (Array.getElem?_eq_some_iff.1 hl).1
    have hy := run_yield (P := P) (args := (vals k)) hl (by rw [← hr0]; simp [recAt, hps k])
    refine ⟨_, _, _, _, hy, roundIn_of_wpIn (by trivial) ?_⟩
    have hla : (W.alloc (ob k)).heap[w.heap.size + 1]? = some (.loop r0) := (Below.heap_alloc _ _ _ hlt).trans hl
    have hda : (W.alloc (ob k)).heap[w.heap.size]? = some (.deferred (some [])) := (Below.heap_alloc _ _ _ (by omega)).trans hd
    have hbe := run_beginRound (P := P) hla (by rw [← hr0]; rfl)
    subst hr0
    subst hrx
    refine hassign _ k W _ ⟨_, hbe, ?_⟩
    have hl2 : ((W.alloc (ob k)).putObj (w.heap.size + 1) (.loop { recAt fn a ps assign body w.heap.size .ready none with state := .busy })).heap[w.heap.size + 1]? = some (.loop { recAt fn a ps assign body w.heap.size .ready none with state := .busy }) := World.putObj_heap_same (by rw [World.size_alloc]; omega)
    have hd2 : ((W.alloc (ob k)).putObj (w.heap.size + 1) (.loop { recAt fn a ps assign body w.heap.size .ready none with state := .busy })).heap[w.heap.size]? = some (.deferred (some [])) := (World.putObj_heap_other (by omega)).trans hda
    refine wpIn_mono (hbody _ k W.heap.size _ hk (hput _ _ _ _ _ (hnew _ _ (ob k) hi) (.inr rfl) hla rfl) ((World.putObj_heap_other (by omega)).trans (World.alloc_heap_new W _)) (by omega)) ?_
    have hke : KeepsE E W ((W.alloc (ob k)).putObj (w.heap.size + 1) (.loop { recAt fn a ps assign body w.heap.size .ready none with state := .busy })) := (KeepsE.alloc W (ob k)).trans (KeepsE.putObj hla _)
    rintro e a3 W3 ⟨hko, (⟨rfl, hi3, hk3⟩ | ⟨rfl, hx3⟩)⟩
    · have hl3 := hko.same _ _ hl2 rfl
      have hd3 := hko.same _ _ hd2 rfl
      have hen := run_endRound (P := P) none hl3
      exact ⟨_, _, hen, .inl ⟨rfl, ⟨hput _ _ _ _ _ hi3 (.inr rfl) hl3 rfl, World.putObj_heap_same (Array.getElem?_eq_some_iff.1 hl3).1, (World.putObj_heap_other (by omega)).trans hd3⟩, (hke.trans hk3).trans (KeepsE.putObj hl3 _)⟩⟩
    · have hl3 := hko.same _ _ hl2 rfl
      have hd3 := hko.same _ _ hd2 rfl
      cases oid with
      | none =>
        have hen := run_endRound (P := P) (some .ret) hl3
        exact ⟨_, _, hen, .inr ⟨rfl, hputX _ _ _ _ hx3 (.inr rfl) hl3 rfl, World.putObj_heap_same (Array.getElem?_eq_some_iff.1 hl3).1, (World.putObj_heap_other (by omega)).trans hd3⟩⟩
      | some i =>
        have hen := run_endRound (P := P) (some (.exit i)) hl3
        exact ⟨_, _, hen, .inr ⟨rfl, hputX _ _ _ _ hx3 (.inr rfl) hl3 rfl, World.putObj_heap_same (Array.getElem?_eq_some_iff.1 hl3).1, (World.putObj_heap_other (by omega)).trans hd3⟩⟩


end Go.Proofs.YtmiaibpdeofokaaDoor
