/-
  package spec: A BLOCK BEHIND WHAT IS DONE TO IT. No walk.
-/
import Derived.Test.YtlndbligbpfdpaaSpVar
namespace Go.Proofs.Ytlndbligbpfdpaa
set_option linter.unusedVariables false
set_option linter.unusedSimpArgs false
open Go.RowKit

theorem BObj.touch {w w' : World} {b : Nat} {B : Gd} {vp : Value} {D : WD} {h : List Int} {L : List MkT} {arms : List Bool} {vs vo vh vl va : Value} (k : BObj w b B vp D h L arms vs vo vh vl va) (t : Touch w w' []) : BObj w' b B vp D h L arms vs vo vh vl va :=
  k.stepped (k.own.touch t) (t.mono (by simp)) (fun g hg => .inl hg) (fun g hg => .inl hg)
theorem BObj.pc {w : World} {b : Nat} {B : Gd} {vp : Value} {D : WD} {h : List Int} {L : List MkT} {arms : List Bool} {vs vo vh vl va : Value} (k : BObj w b B vp D h L arms vs vo vh vl va) (x : Int) : BObj (w.setCell ⟨b, 0, none⟩ (.int .i64 x)) b B vp { D with pc := x } h L arms vs vo vh vl va :=
  k.stepped (k.own.keep ((Touch.refl w [b]).setCell (.inl (by simp)) _) (k.o.set0 x) rfl rfl) ((Touch.refl w _).setCell (.inl (by simp)) _) (fun g hg => .inl hg) (fun g hg => .inl hg)
theorem BObj.fuel {w w' : World} {b : Nat} {B : Gd} {vp : Value} {D : WD} {h : List Int} {L : List MkT} {arms : List Bool} {vs vo vh vl va : Value} (k : BObj w b B vp D h L arms vs vo vh vl va) (x : Int) (k' : WObj w' b 75 [vh, vl, va] vs vo vp { D with fuel := x }) (t : Touch w w' [b]) : BObj w' b B vp { D with fuel := x } h L arms vs vo vh vl va :=
  k.stepped (k.own.keep t k' rfl rfl) (t.mono (by simp)) (fun g hg => .inl hg) (fun g hg => .inl hg)
/-- Behind exchange. -/
theorem BObj.exch {w w' : World} {b : Nat} {B : Gd} {vp : Value} {D : WD} {st : List Int} {h : List Int} {L : List MkT} {arms : List Bool} {vs vo vh vl va : Value} (k : BObj w b B vp D h L arms vs vo vh vl va) (hx : ∃ v', WObj w' b 75 [vh, vl, va] v' vo vp { D with st := st } ∧ valOwn w' 0 v' st ∧ Touch w w' (b :: vs.ownBlock.toList) ∧ (∀ g, v'.ownBlock = some g → vs.ownBlock = some g ∨ w.heap.size ≤ g)) :
    ∃ vs', BObj w' b B vp { D with st := st } h L arms vs' vo vh vl va := by
  obtain ⟨v', h1, h2, t, h3⟩ := hx
  have ko := k.own
  have hs := t.size
  have hlt := k.o.lt
  refine ⟨v', k.stepped ⟨h1, h2, ownsRow_touch ko.u t (fun g hg hm => ?_), fun g hg hg2 => ?_, Nat.zero_le _, fun g hg => ?_, ko.hc⟩ (t.mono (fun x hx => by simp at hx ⊢; rcases hx with q | q; exact .inl q; exact .inr (.inl q))) h3 (fun g hg => .inl hg)⟩
  · simp only [List.mem_cons, Option.mem_toList] at hm
    rcases hm with rfl | hm
    · exact ko.hc _ hg rfl
    · exact ko.n g hm hg
  · rcases h3 g hg with q | q
    · exact ko.n g q hg2
    · have := own_lt ko.u g hg2; omega
  · rcases h3 g hg with q | q
    · exact ko.hb g q
    · omega
theorem val_put {w : World} {g cap : Nat} {ls : List Int} (h : valOwn w 0 (.slice (some ⟨g, 0, none⟩) ls.length cap) ls) (i : Nat) (x : Int) : valOwn (w.setCell ⟨g, i, none⟩ (.int .u64 x)) 0 (.slice (some ⟨g, 0, none⟩) ls.length cap) (ls.set i x) := by
  have hl : (ls.set i x).length = ls.length := List.length_set
  refine ⟨by rw [List.length_map, hl]; omega, .inr ?_⟩
  rcases h.2 with ⟨e, _⟩ | ⟨g', cap', cur, e, hB, hg, h1, h2, h3, h4⟩
  · simp at e
  · simp only [Value.slice.injEq, Option.some.injEq, Addr.mk.injEq] at e
    obtain ⟨⟨rfl, _⟩, _, rfl⟩ := e
    refine ⟨g, cap, _, by rw [hl], hB, heap_setCell_same _ _ _ _ _ _ hg, by rw [hl]; exact h1, h2, by simpa using h3, ?_⟩
    rw [hl, List.map_set, ← h4]
    simp only [Array.toList_setIfInBounds]
    rw [List.take_set]
/-- A variable that is written. -/
theorem BObj.seth {w : World} {b : Nat} {B : Gd} {vp : Value} {D : WD} {h : List Int} {L : List MkT} {arms : List Bool} {vs vo vl va : Value} {g cap : Nat} (k : BObj w b B vp D h L arms vs vo (.slice (some ⟨g, 0, none⟩) h.length cap) vl va) (i : Nat) (x : Int) : BObj (w.setCell ⟨g, i, none⟩ (.int .u64 x)) b B vp D (h.set i x) L arms vs vo (.slice (some ⟨g, 0, none⟩) h.length cap) vl va := by
  have t : Touch w (w.setCell ⟨g, i, none⟩ (.int .u64 x)) [g] := (Touch.refl w [g]).setCell (.inl (by simp)) _
  have h3 : g ∈ comp b vs vo (.slice (some ⟨g, 0, none⟩) h.length cap) vl va (ftL L) 3 := mem_ob.2 rfl
  have hS : ∀ j, j ≠ 3 → ∀ y ∈ comp b vs vo (.slice (some ⟨g, 0, none⟩) h.length cap) vl va (ftL L) j, y ∉ [g] := fun j hj y hy hm => by
    rw [List.mem_singleton] at hm
    subst hm
    exact k.ap j 3 hj y hy h3
  have hp := val_put k.hp i x
  have hsz : (w.setCell ⟨g, i, none⟩ (.int .u64 x)).heap.size = w.heap.size := by simp
  refine ⟨k.o.touch t (hS 0 (by decide) b (by simp [comp])), ownsRow_touch k.s t (fun y hy => hS 1 (by decide) y (mem_ob.2 hy)), ownsRow_touch k.u t (fun y hy => hS 2 (by decide) y (mem_ob.2 hy)), hp, ownsRow_touch k.lf t (fun y hy => hS 4 (by decide) y (mem_ob.2 hy)), ownsRow_touch k.ar t (fun y hy => hS 5 (by decide) y (mem_ob.2 hy)), fun u hu => (k.mks u hu).touch t (fun y hy => hS 6 (by decide) y (by simp only [comp, ftL]; exact List.mem_flatMap.2 ⟨u, hu, hy⟩)), k.mn, k.ap, fun j y hy => by rw [hsz]; exact k.lt j y hy, k.ge, by rw [hsz]; exact k.hB⟩
theorem BObj.c9 {w : World} {b : Nat} {B : Gd} {vp : Value} {D : WD} {h : List Int} {L : List MkT} {arms : List Bool} {vs vo vh vl va : Value} (k : BObj w b B vp D h L arms vs vo vh vl va) : w.cell? ⟨b, 9, none⟩ = some vh ∧ w.cell? ⟨b, 10, none⟩ = some vl ∧ w.cell? ⟨b, 11, none⟩ = some va := by
  refine ⟨?_, ?_, ?_⟩ <;> (unfold World.cell?; rw [k.o.st]; rfl)

/-- How a deed of a block ends: 0: it is done; -1: it is to be retried; else it is stuck, by this error. -/
def BPost (w0 : World) (S0 : List Nat) (b : Nat) (vp : Value) (r : Int × BX) (e : Ending) (w' : World) : Prop :=
  (r.1 = 0 ∧ e = .returned (.tuple #[]) ∧ BAt w0 S0 w' b vp r.2) ∨ (r.1 = -1 ∧ e = .panicked [{ v := .iface 80 (.agg #[]), recovered := false }] ∧ Touch w0 w' S0) ∨ (0 < r.1 ∧ e = .panicked [{ v := .iface 78 (.agg #[.int .i64 r.1]), recovered := false }] ∧ Touch w0 w' S0)

/-- A block, and a block of memory that is not its own. -/
def BAtP (w0 : World) (S0 : List Nat) (w : World) (b : Nat) (vp : Value) (X : BX) (p : Nat) : Prop := ∃ L vs vo vh vl va, X.ms = L.map (fun t => t.1) ∧ BObj w b (w0.heap.size, S0) vp X.D X.h L X.arms vs vo vh vl va ∧ Touch w0 w S0 ∧ p < w.heap.size ∧ ∀ i, p ∉ comp b vs vo vh vl va (ftL L) i
def BPostP (w : World) (p : Nat) (w0 : World) (S0 : List Nat) (b : Nat) (vp : Value) (r : Int × BX) (e : Ending) (w' : World) : Prop := BPost w0 S0 b vp r e w' ∧ (r.1 = 0 → w'.heap[p]? = w.heap[p]?)
theorem BAtP.bat {w0 w : World} {S0 : List Nat} {b : Nat} {vp : Value} {X : BX} {p : Nat} (h : BAtP w0 S0 w b vp X p) : BAt w0 S0 w b vp X := by
  obtain ⟨L, vs, vo, vh, vl, va, hL, k, t0, _⟩ := h
  exact ⟨L, vs, vo, vh, vl, va, hL, k, t0⟩
theorem BAtP.touch {w0 w w' : World} {S0 : List Nat} {b : Nat} {vp : Value} {X : BX} {p : Nat} (h : BAtP w0 S0 w b vp X p) (t : Touch w w' []) : BAtP w0 S0 w' b vp X p := by
  obtain ⟨L, vs, vo, vh, vl, va, hL, k, t0, h1, h2⟩ := h
  exact ⟨L, vs, vo, vh, vl, va, hL, k.touch t, t0.trans t (by simp), Nat.lt_of_lt_of_le h1 t.size, h2⟩
theorem apart_keep {w w' : World} {b p : Nat} {vs vo vh vl va : Value} {F S : List Nat} (h1 : p < w.heap.size) (h2 : ∀ i, p ∉ comp b vs vo vh vl va F i) (t : Touch w w' S) (hS : ∀ x ∈ S, ∃ i, x ∈ comp b vs vo vh vl va F i) : w'.heap[p]? = w.heap[p]? :=
  t.block p h1 (fun hm => by obtain ⟨i, hi⟩ := hS p hm; exact h2 i hi)

/-- reach as a plain function. -/
def reachB (X : BX) (i : InsD) : Int × BX :=
  if fitsW i.op X.D.st.length = false then (12, X) else match varW i (X.D.st.drop (X.D.st.length - (popV i.op).toNat)) X.h.length with
  | none => (2, X)
  | some t => if i.op = 4 ∨ i.op = 6 then (0, { X with D := { X.D with st := X.D.st.take (X.D.st.length - (popV i.op).toNat) ++ [X.h.getD t.toNat 0], pc := X.D.pc + 1 } })
    else (0, { X with h := X.h.set t.toNat ((X.D.st.drop (X.D.st.length - (popV i.op).toNat)).getD 0 0), D := { X.D with st := X.D.st.take (X.D.st.length - (popV i.op).toNat) ++ [], pc := X.D.pc + 1 } })

end Go.Proofs.Ytlndbligbpfdpaa
