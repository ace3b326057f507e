/-
  Fork and Clear of both sets BY THEIR CONTRACTS, AND ReadsForks, WALKED.
-/
import Derived.Test.YtbiinldodhkkbaaReadsMerge2
namespace Go.Proofs.Ytbiinldodhkkbaa
set_option linter.unusedVariables false
set_option linter.unusedSimpArgs false
open Go.RowKit Go.Maps

theorem merge_from_none {K : List EntD} (hK : SetL K) : mergeE [] K = (0, K) := by
  have h1 : lackE [] K = K := by
    unfold lackE
    rw [List.filter_eq_self]
    intro e _
    rfl
  unfold mergeE
  have := hK.len
  rw [h1, if_neg (by simp; omega)]
  rfl

set_option maxRecDepth 100000 in
theorem efork_any {B : Nat} {w : World} {b m : Nat} {vl : Value} {L : List EntD} (h : RdSet B w b m vl L) :
    Calls Try.prog 13 #[.pointer (some ⟨b, 0, none⟩)] w fun x w' => ∃ b' m' vl', x = .returned (.pointer (some ⟨b', 0, none⟩)) ∧ RdSet w.heap.size w' b' m' vl' L ∧ Touch w w' [] := by
  have HS : Hid _ := h
  clear h
  go_enter Try.func13, Try.ntmps13
  go_wp2_with fail
  refine (rdnew_any w).mono ?_
  rintro x w1 ⟨b', m', rfl, s1, t1⟩
  have g := merge_any s1 t1.size (HS.out.keep t1 (by simp))
  rw [merge_from_none HS.out.sl] at g
  go_wp2_with fail
  refine g.mono ?_
  rintro x w2 ⟨v2, rfl, s2, t2, f2⟩
  clear g
  go_wp2
  go_ret
  exact ⟨b', m', v2, rfl, s2, t1.trans t2 (fun q hq => .inr (s1.foot_lt q hq).1)⟩

set_option maxRecDepth 100000 in
theorem erfork_any {B : Nat} {w : World} {b : Nat} {vl : Value} {L : List EntD} (h : RfSet B w b vl L) :
    Calls Try.prog 14 #[.pointer (some ⟨b, 0, none⟩)] w fun x w' => ∃ b' vl', x = .returned (.pointer (some ⟨b', 0, none⟩)) ∧ RfSet w.heap.size w' b' vl' L ∧ Touch w w' [] := by
  have g := rlist_any h
  have hsl := h.sl
  clear h
  go_enter Try.func14, Try.ntmps14
  go_wp2_with fail
  refine g.mono ?_
  rintro x w1 ⟨v, rfl, ho, t1⟩
  clear g
  obtain ⟨av, cv, rfl⟩ := RdSet.owns_form ho
  have HR : Hid (RfSet w.heap.size (w1.alloc (.cells #[.slice av L.length cv] 59)) w1.heap.size (.slice av L.length cv) L) := ⟨t1.size, heap_alloc_new w1 _, ho.alloc _, hsl⟩
  have HT : Hid _ := t1.alloc (.cells #[.slice av L.length cv] 59)
  clear ho t1
  generalize L.length = n at *
  go_wp2
  go_ret
  exact ⟨w1.heap.size, .slice av n cv, by simp, HR.out, HT.out⟩

theorem run_clear_map {w : World} {m : Nat} {es : Array MapEntry} {clock : Nat} (hb : w.heap[m]? = some (.map es clock)) (ty : TypeId) :
    (Builtin.clear_ #[54] ty #[.map (some m)]).run Try.prog w = .ok (.tuple #[]) { w with heap := w.heap.setIfInBounds m (.map #[] clock) } := by
  simp [Builtin.clear_, run_underlying Try.underlying54, MapKept.run_getObj_map hb, MapKept.run_setObj_map _ hb, Result.andThen]

set_option maxRecDepth 100000 in
theorem eclear_any {B : Nat} {w : World} {b m : Nat} {vl : Value} {L : List EntD} (h : RdSet B w b m vl L) :
    Calls Try.prog 17 #[.pointer (some ⟨b, 0, none⟩)] w fun x w' => x = .returned (.tuple #[]) ∧ RdSet B w' b m (.slice none 0 0) [] ∧ Touch w w' [b, m] := by
  obtain ⟨hbm, hvb, hvm⟩ := h.apart
  obtain ⟨D, ⟨es, clock, hm, _⟩, _⟩ := h.map
  have hml := lt_of_heap hm
  obtain ⟨w2, hw2⟩ : ∃ w2 : World, w2 = { w with heap := w.heap.setIfInBounds m (.map #[] clock) } := ⟨_, rfl⟩
  have hrun := run_clear_map hm
  rw [← hw2] at hrun
  have t2 : Touch w w2 [m] := by
    rw [hw2]
    refine ⟨rfl, rfl, rfl, by simp, fun k hk hne => ?_⟩
    have : m ≠ k := fun e => hne (by simp [e])
    simp [Array.getElem?_setIfInBounds, this]
  have hm2 : w2.heap[m]? = some (.map #[] clock) := by rw [hw2]; simp [hml]
  have st2 := (t2.block b (lt_of_heap h.st) (by simpa using hbm)).trans h.st
  obtain ⟨c0, c1, f0, f1⟩ := h.cells
  have d0 : w2.cell? ⟨b, 0, none⟩ = some vl := by simp [World.cell?, st2]
  have g0 : w2.frozen? ⟨b, 0, none⟩ = false := by simp [World.frozen?, st2]
  obtain ⟨al, cl, rfl⟩ := RdSet.owns_form h.own
  have tl : Touch w2 (w2.setCell ⟨b, 0, none⟩ (.slice none 0 0)) [b] := (Touch.refl w2 [b]).setCell (.inl (by simp)) _
  have HR : Hid (RdSet B (w2.setCell ⟨b, 0, none⟩ (.slice none 0 0)) b m (.slice none 0 0) []) := by
    refine ⟨h.hb, h.hm, ?_, World.ownsRow_nil _ _ _ _, ⟨_, ⟨#[], clock, (tl.block m (lt_of_heap hm2) (by simpa using Ne.symm hbm)).trans hm2, ⟨by simp, MapKept.stamped_empty clock, by simp⟩, Nat.zero_le _, rfl⟩, Idx.nil⟩, SetL.nil⟩
    rw [heap_setCell_same _ _ _ _ _ _ st2]; rfl
  have HT : Hid (Touch w (w2.setCell ⟨b, 0, none⟩ (.slice none 0 0)) [b, m]) := (t2.mono (by simp)).setCell (.inl (by simp)) _
  clear h hm hm2 st2 t2 tl hw2
  generalize L.length = n at *
  go_enter Try.func17, Try.ntmps17
  go_wp2
  go_end0
  exact ⟨rfl, HR.out, HT.out⟩

theorem erclear_any {B : Nat} {w : World} {b : Nat} {vl : Value} {L : List EntD} (h : RfSet B w b vl L) :
    Calls Try.prog 18 #[.pointer (some ⟨b, 0, none⟩)] w fun x w' => x = .returned (.tuple #[]) ∧ RfSet B w' b (.slice none 0 0) [] ∧ Touch w w' [b] := by
  obtain ⟨c0, f0⟩ := h.cells
  obtain ⟨al, cl, rfl⟩ := RdSet.owns_form h.own
  have HR : Hid (RfSet B (w.setCell ⟨b, 0, none⟩ (.slice none 0 0)) b (.slice none 0 0) []) := ⟨h.hb, by rw [heap_setCell_same _ _ _ _ _ _ h.st]; rfl, World.ownsRow_nil _ _ _ _, SetL.nil⟩
  have HT : Hid (Touch w (w.setCell ⟨b, 0, none⟩ (.slice none 0 0)) [b]) := (Touch.refl w [b]).setCell (.inl (by simp)) _
  clear h
  generalize L.length = n at *
  go_enter Try.func18, Try.ntmps18
  go_wp2
  go_end0
  exact ⟨rfl, HR.out, HT.out⟩

end Go.Proofs.Ytbiinldodhkkbaa
