/-
  package spec: A BLOCK AS PLAIN DATA AND AS IT LIES: its walk, its heap, the left arms that are begun, the arms that were taken.
-/
import Derived.Test.YtlndbligbpfdpaaSpWalkOf
import Derived.Test.YtlndbligbpfdpaaSpTriedO
namespace Go.Proofs.Ytlndbligbpfdpaa
set_option linter.unusedVariables false
set_option linter.unusedSimpArgs false
open Go.RowKit

/-- Since when (how many blocks there were), and which of the older ones, may be changed. -/
abbrev Gd := Nat × List Nat
def Gd.ok (B : Gd) (x : Nat) : Prop := x ∈ B.2 ∨ B.1 ≤ x
/-- What is kept of a left arm. -/
structure MkD where
  D : WD
  h : List Int
  e : Int
/-- A block. -/
structure BX where
  D : WD
  h : List Int
  ms : List MkD
  arms : List Bool

def ob (v : Value) : List Nat := v.ownBlock.toList
theorem mem_ob {v : Value} {g : Nat} : g ∈ ob v ↔ v.ownBlock = some g := by unfold ob; simp

def clV (s h p q : Nat) : Value := .func (.func 104) #[] #[.pointer (some ⟨s, 0, none⟩), .pointer (some ⟨h, 0, none⟩), .pointer (some ⟨p, 0, none⟩), .pointer (some ⟨q, 0, none⟩)]
/-- A left arm's way back as it lies: its blocks. -/
structure MkC (w : World) (b : Nat) (B : Gd) (m : MkD) (s h p q : Nat) (vs vo vh : Value) : Prop where
  st : StB w s m.D vs vo
  so : valOwn w 0 vs m.D.st
  uo : valOwn w 0 vo m.D.out
  hb : w.heap[h]? = some (.cells #[vh] 23 (0, 0))
  hp : valOwn w 0 vh m.h
  pb : w.heap[p]? = some (.cells #[.pointer (some ⟨b, 0, none⟩)] 72 (0, 0))
  qe : w.heap[q]? = some (.cells #[.int .i64 m.e] 3 (0, 0))
  nd : (s :: h :: p :: q :: (ob vs ++ (ob vo ++ ob vh))).Nodup
def MkAt (w : World) (b : Nat) (B : Gd) (m : MkD) (v : Value) (F : List Nat) : Prop :=
  ∃ s h p q vs vo vh, v = clV s h p q ∧ F = s :: h :: p :: q :: (ob vs ++ (ob vo ++ ob vh)) ∧ MkC w b B m s h p q vs vo vh
theorem MkC.touch {w w' : World} {b : Nat} {B : Gd} {m : MkD} {s h p q : Nat} {vs vo vh : Value} (k : MkC w b B m s h p q vs vo vh) {S : List Nat} (t : Touch w w' S) (hS : ∀ x ∈ s :: h :: p :: q :: (ob vs ++ (ob vo ++ ob vh)), x ∉ S) : MkC w' b B m s h p q vs vo vh := by
  refine ⟨k.st.touch t (hS s (by simp)), ownsRow_touch k.so t (fun g hg => hS g ?_), ownsRow_touch k.uo t (fun g hg => hS g ?_), (t.block h (lt_of_heap k.hb) (hS h (by simp))).trans k.hb, ownsRow_touch k.hp t (fun g hg => hS g ?_), (t.block p (lt_of_heap k.pb) (hS p (by simp))).trans k.pb, (t.block q (lt_of_heap k.qe) (hS q (by simp))).trans k.qe, k.nd⟩
  · simp [mem_ob.2 hg]
  · simp [mem_ob.2 hg]
  · simp [mem_ob.2 hg]
theorem MkAt.touch {w w' : World} {b : Nat} {B : Gd} {m : MkD} {v : Value} {F : List Nat} (k : MkAt w b B m v F) {S : List Nat} (t : Touch w w' S) (hS : ∀ x ∈ F, x ∉ S) : MkAt w' b B m v F := by
  obtain ⟨s, h, p, q, vs, vo, vh, e1, e2, hc⟩ := k
  subst e2
  exact ⟨s, h, p, q, vs, vo, vh, e1, rfl, hc.touch t hS⟩

/-- Whose blocks they are. -/
def comp (b : Nat) (vs vo vh vl va : Value) (F : List Nat) : Nat → List Nat
  | 0 => [b]
  | 1 => ob vs
  | 2 => ob vo
  | 3 => ob vh
  | 4 => ob vl
  | 5 => ob va
  | 6 => F
  | _ => []
theorem comp_swap {N : Nat} {c c' : Nat → List Nat} (ap : ∀ i j, i ≠ j → ∀ x ∈ c i, x ∉ c j) (h : ∀ i, ∀ x ∈ c' i, x ∈ c i ∨ N ≤ x) (hf : ∀ i j, i ≠ j → ∀ x ∈ c' i, N ≤ x → x ∉ c' j) : ∀ i j, i ≠ j → ∀ x ∈ c' i, x ∉ c' j := by
  intro i j hij x hx hx'
  rcases h i x hx with q | q
  · rcases h j x hx' with r | r
    · exact ap i j hij x q r
    · exact hf j i (fun e => hij e.symm) x hx' r hx
  · exact hf i j hij x hx q hx'

abbrev MkT := MkD × Value × List Nat
def ftL (L : List MkT) : List Nat := L.flatMap (fun t => t.2.2)
/-- A block as it lies. -/
structure BObj (w : World) (b : Nat) (B : Gd) (vp : Value) (D : WD) (h : List Int) (L : List MkT) (arms : List Bool) (vs vo vh vl va : Value) : Prop where
  o : WObj w b 75 [vh, vl, va] vs vo vp D
  s : valOwn w 0 vs D.st
  u : valOwn w 0 vo D.out
  hp : valOwn w 0 vh h
  lf : w.ownsRow 0 1 1 vl L.length (L.map (fun t => t.2.1))
  ar : w.ownsRow 0 4 1 va arms.length (arms.map Value.bool)
  mks : ∀ t ∈ L, MkAt w b B t.1 t.2.1 t.2.2
  mn : L.Pairwise (fun t u => ∀ x ∈ t.2.2, x ∉ u.2.2)
  ap : ∀ i j, i ≠ j → ∀ x ∈ comp b vs vo vh vl va (ftL L) i, x ∉ comp b vs vo vh vl va (ftL L) j
  lt : ∀ i, ∀ x ∈ comp b vs vo vh vl va (ftL L) i, x < w.heap.size
  ge : ∀ i, ∀ x ∈ comp b vs vo vh vl va (ftL L) i, B.ok x
  hB : B.1 ≤ w.heap.size
/-- A block, since the world w0. -/
def BAt (w0 : World) (S0 : List Nat) (w : World) (b : Nat) (vp : Value) (X : BX) : Prop := ∃ L vs vo vh vl va, X.ms = L.map (fun t => t.1) ∧ BObj w b (w0.heap.size, S0) vp X.D X.h L X.arms vs vo vh vl va ∧ Touch w0 w S0

/-- Its walk is its own. -/
theorem BObj.own {w : World} {b : Nat} {B : Gd} {vp : Value} {D : WD} {h : List Int} {L : List MkT} {arms : List Bool} {vs vo vh vl va : Value} (k : BObj w b B vp D h L arms vs vo vh vl va) : WOwn w b 0 75 [vh, vl, va] vs vo vp D := by
  refine ⟨k.o, k.s, k.u, fun g hg hg2 => k.ap 1 2 (by decide) g (mem_ob.2 hg) (mem_ob.2 hg2), Nat.zero_le _, fun g hg e => ?_, fun g hg e => ?_⟩
  · subst e; exact k.ap 1 0 (by decide) g (mem_ob.2 hg) (by simp [comp])
  · subst e; exact k.ap 2 0 (by decide) g (mem_ob.2 hg) (by simp [comp])

/-- Behind what a step may do. -/
theorem BObj.stepped {w w' : World} {b : Nat} {B : Gd} {vp : Value} {D D' : WD} {h : List Int} {L : List MkT} {arms : List Bool} {vs vo vh vl va vs' vo' : Value} (k : BObj w b B vp D h L arms vs vo vh vl va)
    (k' : WOwn w' b 0 75 [vh, vl, va] vs' vo' vp D') (t : Touch w w' (b :: (vs.ownBlock.toList ++ vo.ownBlock.toList))) (h1 : ∀ g, vs'.ownBlock = some g → vs.ownBlock = some g ∨ w.heap.size ≤ g) (h2 : ∀ g, vo'.ownBlock = some g → vo.ownBlock = some g ∨ w.heap.size ≤ g) :
    BObj w' b B vp D' h L arms vs' vo' vh vl va := by
  have hS : ∀ i, 3 ≤ i → ∀ x ∈ comp b vs vo vh vl va (ftL L) i, x ∉ b :: (vs.ownBlock.toList ++ vo.ownBlock.toList) := by
    intro i hi x hx hm
    simp only [List.mem_cons, List.mem_append, Option.mem_toList] at hm
    rcases hm with rfl | hm | hm
    · exact k.ap i 0 (by omega) x hx (by simp [comp])
    · exact k.ap i 1 (by omega) x hx (mem_ob.2 hm)
    · exact k.ap i 2 (by omega) x hx (mem_ob.2 hm)
  have hsub : ∀ i, ∀ x ∈ comp b vs' vo' vh vl va (ftL L) i, x ∈ comp b vs vo vh vl va (ftL L) i ∨ w.heap.size ≤ x := by
    intro i x hx
    match i, hx with
    | 0, hx => exact .inl hx
    | 1, hx => rcases h1 x (mem_ob.1 hx) with q | q; exact .inl (mem_ob.2 q); exact .inr q
    | 2, hx => rcases h2 x (mem_ob.1 hx) with q | q; exact .inl (mem_ob.2 q); exact .inr q
    | 3, hx => exact .inl hx
    | 4, hx => exact .inl hx
    | 5, hx => exact .inl hx
    | 6, hx => exact .inl hx
    | n + 7, hx => simp [comp] at hx
  have hs := t.size
  refine ⟨k'.o, k'.s, k'.u, ownsRow_touch k.hp t (fun g hg => hS 3 (by omega) g (mem_ob.2 hg)), ownsRow_touch k.lf t (fun g hg => hS 4 (by omega) g (mem_ob.2 hg)), ownsRow_touch k.ar t (fun g hg => hS 5 (by omega) g (mem_ob.2 hg)), fun u hu => (k.mks u hu).touch t (fun x hx => hS 6 (by omega) x (by simp only [comp, ftL]; exact List.mem_flatMap.2 ⟨u, hu, hx⟩)), k.mn, ?_, ?_, ?_, Nat.le_trans k.hB hs⟩
  · refine comp_swap k.ap hsub ?_
    intro i j hij x hx hN hx'
    rcases hsub i x hx with q | q
    · have := k.lt i x q; omega
    · rcases hsub j x hx' with r | r
      · have := k.lt j x r; omega
      · match i, j, hx, hx' with
        | 1, 2, hx, hx' => exact k'.n x (mem_ob.1 hx) (mem_ob.1 hx')
        | 2, 1, hx, hx' => exact k'.n x (mem_ob.1 hx') (mem_ob.1 hx)
        | 0, _, hx, _ => have := k.lt 0 x hx; omega
        | 3, _, hx, _ => have := k.lt 3 x hx; omega
        | 4, _, hx, _ => have := k.lt 4 x hx; omega
        | 5, _, hx, _ => have := k.lt 5 x hx; omega
        | 6, _, hx, _ => have := k.lt 6 x hx; omega
        | n + 7, _, hx, _ => simp [comp] at hx
        | 1, 0, _, hx' => have := k.lt 0 x hx'; omega
        | 2, 0, _, hx' => have := k.lt 0 x hx'; omega
        | 1, 1, _, _ => exact hij rfl
        | 2, 2, _, _ => exact hij rfl
        | 1, 3, _, hx' => have := k.lt 3 x hx'; omega
        | 2, 3, _, hx' => have := k.lt 3 x hx'; omega
        | 1, 4, _, hx' => have := k.lt 4 x hx'; omega
        | 2, 4, _, hx' => have := k.lt 4 x hx'; omega
        | 1, 5, _, hx' => have := k.lt 5 x hx'; omega
        | 2, 5, _, hx' => have := k.lt 5 x hx'; omega
        | 1, 6, _, hx' => have := k.lt 6 x hx'; omega
        | 2, 6, _, hx' => have := k.lt 6 x hx'; omega
        | 1, n + 7, _, hx' => simp [comp] at hx'
        | 2, n + 7, _, hx' => simp [comp] at hx'
  · intro i x hx
    rcases hsub i x hx with q | q
    · have := k.lt i x q; omega
    · match i, hx with
      | 0, hx => have := k.lt 0 x hx; omega
      | 1, hx => exact own_lt k'.s x (mem_ob.1 hx)
      | 2, hx => exact own_lt k'.u x (mem_ob.1 hx)
      | 3, hx => have := k.lt 3 x hx; omega
      | 4, hx => have := k.lt 4 x hx; omega
      | 5, hx => have := k.lt 5 x hx; omega
      | 6, hx => have := k.lt 6 x hx; omega
      | n + 7, hx => simp [comp] at hx
  · intro i x hx
    rcases hsub i x hx with q | q
    · exact k.ge i x q
    · exact .inr (by have := k.hB; omega)

end Go.Proofs.Ytlndbligbpfdpaa
