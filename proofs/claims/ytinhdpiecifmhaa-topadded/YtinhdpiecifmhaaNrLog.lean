/-
  package norec: AN ATTEMPT's OWN LOG AND ITS READS MOVE. No walk.
-/
import Derived.Test.YtinhdpiecifmhaaNrEnd
namespace Go.Proofs.Ytinhdpiecifmhaa.Nr
set_option linter.unusedVariables false
set_option linter.unusedSimpArgs false
open Go.RowKit Go.Maps

theorem Slot.cells {w : World} {r : Nat} (h : Slot w r) : ∃ v0 v1 v2 v3 v4 v5 v6, w.cell? ⟨r, 0, none⟩ = some v0 ∧ w.cell? ⟨r, 1, none⟩ = some v1 ∧ w.cell? ⟨r, 2, none⟩ = some v2 ∧ w.cell? ⟨r, 3, none⟩ = some v3 ∧ w.cell? ⟨r, 4, none⟩ = some v4 ∧ w.cell? ⟨r, 5, none⟩ = some v5 ∧ w.cell? ⟨r, 6, none⟩ = some v6 ∧ ∀ j, w.frozen? ⟨r, j, none⟩ = false := by
  obtain ⟨R, h⟩ := h
  refine ⟨.bool R.done, .int .u64 R.val, .bool R.busy, .int .i64 R.own, .bool R.ended, .int .u8 R.why, .int .i64 R.err, ?_, ?_, ?_, ?_, ?_, ?_, ?_, fun j => ?_⟩
  all_goals simp [World.cell?, World.frozen?, h]

/-- On the way: there is room for the answer, and the engine has come so far. -/
structure Mid (w : World) (X : ELoc) (wm : World) (Xm : ELoc) : Prop where
  s : Slot wm w.heap.size
  n : Next w X wm Xm
  f : ∀ c, ∀ x ∈ Xm.foot c, x ≠ w.heap.size
theorem Mid.start {w : World} {X : ELoc} {E : Eng} (h : EObj w X E) : Mid w X (w.alloc (rpC rp0)) X :=
  ⟨Slot.new w, Next.same ((Touch.refl w []).alloc _) (by simp), fun c x hx e => by have := h.lt c x hx; omega⟩
theorem Mid.next {w wm w' : World} {X Xm X' : ELoc} (m : Mid w X wm Xm) (n : Next wm Xm w' X') : Mid w X w' X' := by
  have hlt : w.heap.size < wm.heap.size := by obtain ⟨R, h⟩ := m.s; exact lt_of_heap h
  refine ⟨m.s.next n (fun ⟨c, hc⟩ => m.f c _ hc rfl), m.n.trans n, fun c x hx e => ?_⟩
  rcases n.has x ⟨c, hx⟩ with ⟨d, hd⟩ | q
  · exact m.f d x hd e
  · omega
theorem Mid.fresh {w wm w' : World} {X Xm : ELoc} (m : Mid w X wm Xm) (t : Touch wm w' []) : Mid w X w' Xm := m.next (Next.same t (by simp))
theorem Mid.end {w wm : World} {X Xm : ELoc} (m : Mid w X wm Xm) {E : Eng} (h : EObj wm Xm E) (R : RpD) : World.there wm w.heap.size 0 (rpL R).toArray.size ∧ ∀ W3, W3 = wm.setCells w.heap.size 0 (rpL R) → W3.rangeAt w.heap.size 0 (rpL R) ∧ EObj W3 Xm E ∧ Next w X W3 Xm :=
  ⟨m.s.there R, slot_end m.s h m.n (Nat.le_refl _) m.f⟩

/-- The log is another one. -/
theorem At.log {w w' : World} {X : ELoc} {E : Eng} {k : Nat} {l : Loc} {A : Att} (h : At w X E k l A) {ch' : List (Nat × Nat)} {Fs' : List Fr} (hp : PLog 0 w' l.ob ch' Fs') (t : Touch w w' (pfoot l.ob l.ch)) (hf : ∀ x ∈ pfoot l.ob ch', x ∈ pfoot l.ob l.ch ∨ w.heap.size ≤ x) :
    At w' (X.put k (some { l with ch := ch' })) (E.put k (some { A with Fs := Fs' })) k { l with ch := ch' } { A with Fs := Fs' } ∧ Next w X w' (X.put k (some { l with ch := ch' })) := by
  have ho := h.obj
  have hla := lt_of_heap ho.st
  have hA : AObj w' { l with ch := ch' } { A with Fs := Fs' } :=
    ⟨(t.block _ hla ho.d2).trans ho.st, ho.rd.keep t ho.d3, hp, ho.d1, fun hx => by rcases hf _ hx with q | q; exact ho.d2 q; simp only at q; omega,
      fun x hx hx' => by rcases hf _ hx' with q | q; exact ho.d3 x hx q; have := (ho.rd.foot_lt x hx).2; omega⟩
  obtain ⟨r1, r2⟩ := h.h.setAt (l' := { l with ch := ch' }) h.hl rfl hA (t.mono (fun x hx => by simp [Loc.foot, hx])) (fun x hx => by
    simp only [Loc.foot, List.mem_cons, List.mem_append] at hx ⊢
    rcases hx with q | q | q
    · exact .inl (.inl q)
    · exact .inl (.inr (.inl q))
    · rcases hf x q with q | q
      · exact .inl (.inr (.inr q))
      · exact .inr q)
  exact ⟨⟨r1, by simp [ELoc.put, setT_same], by simp [Eng.put, setT_same]⟩, r2⟩

/-- The reads are others. -/
theorem At.reads {w w' : World} {X : ELoc} {E : Eng} {k : Nat} {l : Loc} {A : Att} (h : At w X E k l A) {rv' : Value} {L' : List Rd.EntD} (hp : Rd.RdSet 0 w' l.rb l.rm rv' L') (t : Touch w w' (Rd.rdfoot l.rb l.rm l.rv)) (hf : ∀ x ∈ Rd.rdfoot l.rb l.rm rv', x ∈ Rd.rdfoot l.rb l.rm l.rv ∨ w.heap.size ≤ x) :
    At w' (X.put k (some { l with rv := rv' })) (E.put k (some { A with L := L' })) k { l with rv := rv' } { A with L := L' } ∧ Next w X w' (X.put k (some { l with rv := rv' })) := by
  have ho := h.obj
  have hla := lt_of_heap ho.st
  have hA : AObj w' { l with rv := rv' } { A with L := L' } :=
    ⟨(t.block _ hla ho.d1).trans ho.st, hp, ho.lg.keep t (fun x hx hx' => ho.d3 x hx' hx), fun hx => by rcases hf _ hx with q | q; exact ho.d1 q; simp only at q; omega, ho.d2,
      fun x hx hx' => by rcases hf _ hx with q | q; exact ho.d3 x q hx'; have := (ho.lg.foot_lt x hx').2; omega⟩
  obtain ⟨r1, r2⟩ := h.h.setAt (l' := { l with rv := rv' }) h.hl rfl hA (t.mono (fun x hx => by simp [Loc.foot, hx])) (fun x hx => by
    simp only [Loc.foot, List.mem_cons, List.mem_append] at hx ⊢
    rcases hx with q | q | q
    · exact .inl (.inl q)
    · rcases hf x q with q | q
      · exact .inl (.inr (.inl q))
      · exact .inr q
    · exact .inl (.inr (.inr q)))
  exact ⟨⟨r1, by simp [ELoc.put, setT_same], by simp [Eng.put, setT_same]⟩, r2⟩

end Go.Proofs.Ytinhdpiecifmhaa.Nr
