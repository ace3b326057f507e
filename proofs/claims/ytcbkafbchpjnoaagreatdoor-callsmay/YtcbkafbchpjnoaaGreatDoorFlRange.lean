/-
  A loop over a function that goes through a string and yields two values: a law of our own.
-/
import Derived.Test.YtcbkafbchpjnoaaGreatDoorAllA
import Derived.RangeFuncNested
import Derived.RangeFuncBound
import Derived.RangeFuncCalls
import Derived.RangeFuncLeaves
import Derived.RangeFuncBox
import Derived.Maps.AppendAt
import Derived.Shelf.Abstract
import Derived.Shelf.RegionOpen
import Derived.OwnWalkIn
import Derived.TacticsInMore
import Derived.LoopNIn
import Derived.LoopIn
namespace Go.Proofs.YtcbkafbchpjnoaaGreatDoor
set_option linter.unusedVariables false
set_option linter.unusedSimpArgs false
open Go.RowKit Go.Shelf

theorem Touch.putObj {a w : World} {S : List Nat} (h : Touch a w S) {l : Nat} (hl : l ∈ S ∨ a.heap.size ≤ l) (o : Obj) : Touch a (w.putObj l o) S :=
  h.trans (R := [l]) ⟨rfl, rfl, rfl, by simp, fun k _ hk => World.putObj_heap_other (by simpa using hk)⟩ (by simpa using hl)

theorem keeps_of_touch {W W' : World} {S : List Nat} (t : Touch W W' S) (hS : ∀ x ∈ S, ∃ cs ty fr, W.heap[x]? = some (.cells cs ty fr)) : KeepsOthers W W' :=
  ⟨t.size, fun k o hk ho => (t.block k (lt_of_heap hk) (fun hs => by
    obtain ⟨cs, ty, fr, e⟩ := hS k hs
    rw [hk] at e
    cases e
    simp [Obj.isCells] at ho)).trans hk⟩

/-- One cell of its own. -/
abbrev One (W : World) (p : Nat) (v : Value) (t : TypeId) : Prop := W.heap[p]? = some (.cells #[v] t (0, 0))
theorem One.cell {W : World} {p : Nat} {v : Value} {t : TypeId} (h : One W p v t) : W.cell? ⟨p, 0, none⟩ = some v := by simp [World.cell?, h]
theorem One.frozen {W : World} {p : Nat} {v : Value} {t : TypeId} (h : One W p v t) : W.frozen? ⟨p, 0, none⟩ = false := by simp [World.frozen?, h]
theorem One.set {W : World} {p : Nat} {v : Value} {t : TypeId} (h : One W p v t) (u : Value) : One (W.setCell ⟨p, 0, none⟩ u) p u t := by
  unfold One at *
  simp [World.setCell, Array.getElem?_modify, h]
theorem one_new (w : World) (v : Value) (t : TypeId) : One (w.alloc (.cells #[v] t)) w.heap.size v t := heap_alloc_new w _
theorem One.alloc {W : World} {p : Nat} {v : Value} {t : TypeId} (h : One W p v t) (o : Obj) : One (W.alloc o) p v t := (heap_alloc_old _ _ (lt_of_heap h)).trans h
theorem One.touch {W W' : World} {p : Nat} {v : Value} {t : TypeId} {S : List Nat} (h : One W p v t) (T : Touch W W' S) (hS : p ∉ S) : One W' p v t := (T.block _ (lt_of_heap h) hS).trans h

theorem wpIn_name {F : Fence} {n : Nat} {P : Program} {c : Code} {Q : Exit → Act → World → Prop} {a : Act} {w : World} (h : ∀ W, W = w → c.wpIn F n P Q a W) : c.wpIn F n P Q a w := h w rfl

/-- The jump by which a body leaves: a return, or the loop's own end. -/
def jE : Option Nat → Exit | none => .ret | some i => .exit i
def jC : Option Nat → Code | none => .ret | some i => .exit i

/-- The record of the loop. -/
def recAt (fn : FuncId) (a : Act) (ps : Array Tmp) (assign body : Code) (D : Nat) (st : LoopState) (pd : Option Code) : Loop := { state := st, pending := pd, fn := fn, tmps := a.tmps, params := ps, assign := assign, body := body, defers := D }

/-- What is kept, and the loop's two blocks beside it. -/
def Kept (I : Nat → World → Prop) (r : Loop) (l D : Nat) (k : Nat) (W : World) : Prop := I k W ∧ W.heap[l]? = some (.loop r) ∧ W.heap[D]? = some (.deferred (some []))
/-- What is left. -/
def LeftX (X : World → Prop) (r : Loop) (l D : Nat) (W : World) : Prop := X W ∧ W.heap[l]? = some (.loop r) ∧ W.heap[D]? = some (.deferred (some []))

/-- Iterators over strings are as they were. -/
def KS (W W' : World) : Prop := ∀ (g : Nat) (s : ByteArray) (p : Nat), W.heap[g]? = some (Obj.stringIter s p) → W'.heap[g]? = some (Obj.stringIter s p)
theorem KS.refl (W : World) : KS W W := fun _ _ _ h => h
theorem KS.trans {W W1 W2 : World} (h : KS W W1) (k : KS W1 W2) : KS W W2 := fun g s p e => k g s p (h g s p e)
theorem KS.putObj {W : World} {l : Nat} {r : Loop} (h : W.heap[l]? = some (.loop r)) (o : Obj) : KS W (W.putObj l o) := fun g s p e => by
  have hne : g ≠ l := fun q => by rw [q, h] at e; cases e
  exact (World.putObj_heap_other hne).trans e
theorem KS.touch {W W' : World} {S : List Nat} (t : Touch W W' S) (hS : ∀ x ∈ S, ∃ cs ty fr, W.heap[x]? = some (.cells cs ty fr)) : KS W W' := fun g s p e => (t.block g (lt_of_heap e) (fun hs => by
  obtain ⟨cs, ty, fr, h⟩ := hS g hs
  rw [e] at h
  cases h)).trans e

def YPostS (J : Nat → World → Prop) (X : World → Prop) (k : Nat) (W : World) (e : Ending) (W' : World) : Prop := (e = .returned (.bool true) ∧ J (k + 1) W' ∧ KS W W') ∨ (e = .returned (.bool false) ∧ X W')
def BPostS (I : Nat → World → Prop) (X : World → Prop) (oid : Option Nat) (W : World) (k : Nat) (e : Exit) (_ : Act) (W' : World) : Prop := KeepsOthers W W' ∧ ((e = .normal ∧ I (k + 1) W' ∧ KS W W') ∨ (e = jE oid ∧ X W'))

/-- A loop over a function that yields, whose body writes; the function's own iterator over a string is kept. -/
theorem rangeFunc_str {P : Program} {n : Nat} {g : Operand} {ps : Array Tmp} {assign body : Code} {Q : Exit → Act → World → Prop} {a : Act} {w : World} (h1 : 1 ≤ n) {gf : Nat} {lb : Array Value}
    (hg : a.eval g = .func (.func gf) #[] lb) (eg : ∀ args w, (callFunc gf args).run P w = .ok (.enter gf args) w) (vals : Nat → Array Value) (hps : ∀ k, ps.size = (vals k).size) (oid : Option Nat) (ok : Nat → Prop)
    (I : Nat → World → Prop) (X : World → Prop) (len : Nat)
    (hput : ∀ k W l o o', I k W → (l = w.heap.size ∨ l = w.heap.size + 1) → W.heap[l]? = some o → o.isCells = false → I k (W.putObj l o'))
    (hputX : ∀ W l o o', X W → (l = w.heap.size ∨ l = w.heap.size + 1) → W.heap[l]? = some o → o.isCells = false → X (W.putObj l o')) (hnew : ∀ k W o, I k W → I k (W.alloc o))
    (h0 : I 0 w) (a₁ : Nat → Act)
    (hseq : ∀ (J : Nat → World → Prop) (Y : World → Prop) (W : World), (∀ k W, J k W → I k W) → (∀ k k' W W' S, J k W → I k' W' → Touch W W' S → w.heap.size ∉ S → w.heap.size + 1 ∉ S → J k' W') → W.heap.size = w.heap.size + 2 → J 0 W → (∀ k W, ok k → J k W → YieldAt Fence.wide (n - 1 - 1) P (w.heap.size + 1) (vals k) W (YPostS J Y k W)) →
      CallsIn Fence.wide (n - 1) P gf (#[.func (.yield (w.heap.size + 1)) #[] #[]] ++ lb) W fun e W' => (∃ v, e = .returned v) ∧ (J len W' ∨ Y W'))
    (hassign : ∀ (l k : Nat) (W : World) (K : Act → World → Prop), K (a₁ k) W →
      assign.wpIn (Fence.wide.inRound l) (n - 1 - 1) P (Exit.then K (fun _ _ _ => False)) { tmps := (ps.zip (vals k)).foldl (fun t (p, v) => t.setIfInBounds p v) a.tmps, defers := [] } W)
    (hbody : ∀ (l k : Nat) (W : World), ok k → I k W → body.wpIn (Fence.wide.inRound l) (n - 1 - 1) P (BPostS I X oid W k) (a₁ k) W)
    (hdone : ∀ (W : World), I len W → W.heap[w.heap.size]? = some (.deferred (some [])) → Q .normal { a with defers := { target := .collected w.heap.size, args := #[] } :: a.defers } W)
    (hleft : ∀ (W : World), X W → W.heap[w.heap.size]? = some (.deferred (some [])) → (jC oid).wpIn Fence.wide n P Q { a with defers := { target := .collected w.heap.size, args := #[] } :: a.defers } W) :
    (Code.rangeFunc g ps assign body).wpIn Fence.wide n P Q a w := by
  refine wpIn_rangeFunc fun fn hfn => ?_
  obtain ⟨r0, hr0⟩ : ∃ r0, recAt fn a ps assign body w.heap.size .ready none = r0 := ⟨_, rfl⟩
  obtain ⟨rx, hrx⟩ : ∃ rx, recAt fn a ps assign body w.heap.size .done (some (jC oid)) = rx := ⟨_, rfl⟩
  have hk0 : ((w.alloc (.deferred (some []))).alloc (.loop r0)).heap[w.heap.size]? = some (.deferred (some [])) := (Below.heap_alloc _ _ _ (by simp)).trans (World.alloc_heap_new w _)
  have hl0 : ((w.alloc (.deferred (some []))).alloc (.loop r0)).heap[w.heap.size + 1]? = some (.loop r0) := by
    have := World.alloc_heap_new (w.alloc (.deferred (some []))) (.loop r0)
    rwa [World.size_alloc] at this
  have hs := hseq (Kept I r0 (w.heap.size + 1) w.heap.size) (LeftX X rx (w.heap.size + 1) w.heap.size) ((w.alloc (.deferred (some []))).alloc (.loop r0))
    (fun k W h => h.1) (fun k k' W W' S h hi t hs1 hs2 => ⟨hi, (t.block _ (lt_of_heap h.2.1) hs2).trans h.2.1, (t.block _ (lt_of_heap h.2.2) hs1).trans h.2.2⟩) (by simp) ⟨hnew _ _ _ (hnew _ _ _ h0), hl0, hk0⟩ ?_
  · refine ⟨w.heap.size + 1, [{ target := .collected w.heap.size, args := #[] }], (w.alloc (.deferred (some []))).alloc (.loop r0), { target := .fn (.func gf) lb, args := #[.func (.yield (w.heap.size + 1)) #[] #[]] }, (w.alloc (.deferred (some []))).alloc (.loop r0), gf,
      #[.func (.yield (w.heap.size + 1)) #[] #[]] ++ lb, (w.alloc (.deferred (some []))).alloc (.loop r0), ?_, ?_, ?_, ?_, fun _ => h1, ?_⟩
    · rw [← hr0]; exact run_enterLoop_outer _ _ _ _ _
    · simp only [resolve, hg]
      simp [go_sem]
    · intro f' hf'; trivial
    · simp [invoke, go_sem, eg]
    · refine hs.mono ?_
      rintro e W2 ⟨⟨v, rfl⟩, (⟨hi, hl, hd⟩ | ⟨hx, hl, hd⟩)⟩
      · have hen := run_endLoop (P := P) hl (by rw [← hr0]; simp [recAt])
        have hp : r0.pending = none := by rw [← hr0]; rfl
        rw [hp] at hen
        exact ⟨none, _, hen, hdone _ (hput _ _ _ _ _ hi (.inr rfl) hl rfl) ((World.putObj_heap_other (by omega)).trans hd)⟩
      · have hen := run_endLoop (P := P) hl (by rw [← hrx]; simp [recAt])
        have hp : rx.pending = some (jC oid) := by rw [← hrx]; rfl
        rw [hp] at hen
        exact ⟨some (jC oid), _, hen, hleft _ (hputX _ _ _ _ hx (.inr rfl) hl rfl) ((World.putObj_heap_other (by omega)).trans hd)⟩
  · rintro k W hk ⟨hi, hl, hd⟩
    have hlt : w.heap.size + 1 < W.heap.size := (Array.getElem?_eq_some_iff.1 hl).1
    have hy := run_yield (P := P) (args := (vals k)) hl (by rw [← hr0]; simp [recAt, hps k])
    refine ⟨_, _, _, _, hy, roundIn_of_wpIn (by trivial) ?_⟩
    have hla : W.heap[w.heap.size + 1]? = some (.loop r0) := hl
    have hda : W.heap[w.heap.size]? = some (.deferred (some [])) := hd
    have hbe := run_beginRound (P := P) hla (by rw [← hr0]; rfl)
    subst hr0
    subst hrx
    refine hassign _ k W _ ⟨_, hbe, ?_⟩
    have hl2 : (W.putObj (w.heap.size + 1) (.loop { recAt fn a ps assign body w.heap.size .ready none with state := .busy })).heap[w.heap.size + 1]? = some (.loop { recAt fn a ps assign body w.heap.size .ready none with state := .busy }) := World.putObj_heap_same (by omega)
    have hd2 : (W.putObj (w.heap.size + 1) (.loop { recAt fn a ps assign body w.heap.size .ready none with state := .busy })).heap[w.heap.size]? = some (.deferred (some [])) := (World.putObj_heap_other (by omega)).trans hda
    refine wpIn_mono (hbody _ k _ hk (hput _ _ _ _ _ hi (.inr rfl) hla rfl)) ?_
    have hke : KS W (W.putObj (w.heap.size + 1) (.loop { recAt fn a ps assign body w.heap.size .ready none with state := .busy })) := KS.putObj hla _
    rintro e a3 W3 ⟨hko, (⟨rfl, hi3, hk3⟩ | ⟨rfl, hx3⟩)⟩
    · have hl3 := hko.same _ _ hl2 rfl
      have hd3 := hko.same _ _ hd2 rfl
      have hen := run_endRound (P := P) none hl3
      exact ⟨_, _, hen, .inl ⟨rfl, ⟨hput _ _ _ _ _ hi3 (.inr rfl) hl3 rfl, World.putObj_heap_same (Array.getElem?_eq_some_iff.1 hl3).1, (World.putObj_heap_other (by omega)).trans hd3⟩, (hke.trans hk3).trans (KS.putObj hl3 _)⟩⟩
    · have hl3 := hko.same _ _ hl2 rfl
      have hd3 := hko.same _ _ hd2 rfl
      cases oid with
      | none =>
        have hen := run_endRound (P := P) (some .ret) hl3
        exact ⟨_, _, hen, .inr ⟨rfl, hputX _ _ _ _ hx3 (.inr rfl) hl3 rfl, World.putObj_heap_same (Array.getElem?_eq_some_iff.1 hl3).1, (World.putObj_heap_other (by omega)).trans hd3⟩⟩
      | some i =>
        have hen := run_endRound (P := P) (some (.exit i)) hl3
        exact ⟨_, _, hen, .inr ⟨rfl, hputX _ _ _ _ hx3 (.inr rfl) hl3 rfl, World.putObj_heap_same (Array.getElem?_eq_some_iff.1 hl3).1, (World.putObj_heap_other (by omega)).trans hd3⟩⟩


end Go.Proofs.YtcbkafbchpjnoaaGreatDoor
