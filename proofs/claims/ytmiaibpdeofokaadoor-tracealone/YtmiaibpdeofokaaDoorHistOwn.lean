/-
  package history: Own BY ITS CONTRACT.
-/
import Derived.Test.YtmiaibpdeofokaaDoorHistReads
namespace Go.Proofs.YtmiaibpdeofokaaDoor
set_option linter.unusedVariables false
set_option linter.unusedSimpArgs false
open Go.RowKit Go.Maps Go.Shelf
attribute [local go_sem] Oper.semAt_some

def sameB (a b : Int) : Bool := ((ofB a.toNat : Nat) : Int) == (ofB b.toNat : Nat)
def ownAt (c : List EvD) (m : Nat) : Bool := match c[m]? with
  | some e => if e.k = 2 then (match getF (noteAll [f0] (c.take m)) e.t with | some v => sameB e.v v | none => true) else true
  | none => true
def ownS (c : List EvD) : Bool := (List.range c.length).all (ownAt c)
theorem ownAt_is {c : List EvD} {m : Nat} (hm : m < c.length) (hk : c[m].k = 2) : ownAt c m = (match getF (noteAll [f0] (c.take m)) c[m].t with | some v => sameB c[m].v v | none => true) := by
  unfold ownAt
  rw [List.getElem?_eq_getElem hm]
  simp only [hk, if_true]
theorem ownAt_not {c : List EvD} {m : Nat} (h : ∀ hm : m < c.length, c[m].k ≠ 2) : ownAt c m = true := by
  unfold ownAt
  by_cases hm : m < c.length
  · rw [List.getElem?_eq_getElem hm]
    simp only [if_neg (h hm)]
  · rw [List.getElem?_eq_none (by omega)]

/-- What Own keeps between two rounds. -/
structure OwI (w : World) (ao : Option Addr) (cap : Nat) (l : List EvD) (a : Int) (k : Nat) (W : World) : Prop where
  b : One W w.heap.size (.bool false) 4
  p : One W (w.heap.size + 1) (.slice ao l.length cap) 22
  q : One W (w.heap.size + 2) (.int .i64 a) 3
  t : Touch w W []
  log : LogAt (w.heap.size + 3) (cutS a l) k W
  all : ∀ m, m < k - 1 → ownAt (cutS a l) m = true
theorem OwI.go {w W W' : World} {ao : Option Addr} {cap : Nat} {l : List EvD} {a : Int} {k k' : Nat} {S : List Nat} (h : OwI w ao cap l a k W) (hk : ∀ m, m < k' - 1 → m < k - 1 ∨ ownAt (cutS a l) m = true) (t : Touch W W' S)
    (hS : ∀ x ∈ S, w.heap.size + 3 ≤ x) (hlog : LogAt (w.heap.size + 3) (cutS a l) k' W') : OwI w ao cap l a k' W' := by
  have hn : ∀ y, y < w.heap.size + 3 → y ∉ S := fun y hy hs => by have := hS y hs; omega
  exact ⟨One.touch h.b t (hn _ (by omega)), One.touch h.p t (hn _ (by omega)), One.touch h.q t (hn _ (by omega)), h.t.trans t (fun x hx => .inr (by have := hS x hx; omega)), hlog, fun m hm => (hk m hm).elim (h.all m) id⟩

/-- .. and where it leaves. -/
structure OwX (w : World) (c : List EvD) (W : World) : Prop where
  b : One W w.heap.size (.bool false) 4
  t : Touch w W []
  no : ownS c = false

end Go.Proofs.YtmiaibpdeofokaaDoor
