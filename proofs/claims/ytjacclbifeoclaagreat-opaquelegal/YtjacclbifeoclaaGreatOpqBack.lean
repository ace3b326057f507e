/-
  package opaque: WHAT TAKES A put BACK; Serial; taken BY THEIR CONTRACTS.
-/
import Derived.Test.YtjacclbifeoclaaGreatOpqWalk
namespace Go.Proofs.YtjacclbifeoclaaGreat
set_option linter.unusedVariables false
set_option linter.unusedSimpArgs false
open Go.RowKit Go.Maps
attribute [local go_sem] Oper.semAt_some

set_option maxRecDepth 100000 in
set_option maxHeartbeats 4000000 in
theorem back_any {w : World} {rb p q r : Nat} {ve vc vl vh : Value} {l : List EvD} {com lf hp : List Int} (h : RowO w rb ve vc vl vh l com lf hp) {a1 a2 : Option Addr} {n1 n2 c1 c2 : Nat} {lf0 hp0 : List Int} (hp1 : One w p (.slice a1 n1 c1) 24) (hq : One w q (.slice a2 n2 c2) 23) (hr : One w r (ptr rb) 38)
    (np : p ≠ rb) (nq : q ≠ rb) (nr : r ≠ rb) (i1 : IRow w (.slice a1 n1 c1) lf0) (i2 : VRow w (.slice a2 n2 c2) hp0) (b1 : lf0 ≠ [] → (Value.slice a1 n1 c1).ownBlock ≠ some rb) (b2 : hp0 ≠ [] → (Value.slice a2 n2 c2).ownBlock ≠ some rb) :
    Calls Tryz.prog 43 #[ptr p, ptr q, ptr r] w fun e w' => e = .returned (.tuple #[]) ∧ RowO w' rb ve vc (.slice a1 n1 c1) (.slice a2 n2 c2) l com lf0 hp0 ∧ Touch w w' [rb] := by
  have HS : Hid (∀ W, Touch w W [rb] → W.cell? ⟨r, 0, none⟩ = some (ptr rb) ∧ W.cell? ⟨p, 0, none⟩ = some (.slice a1 n1 c1) ∧ W.cell? ⟨q, 0, none⟩ = some (.slice a2 n2 c2)) := fun W t =>
    ⟨(One.touch hr t (by simpa using nr)).cell, (One.touch hp1 t (by simpa using np)).cell, (One.touch hq t (by simpa using nq)).cell⟩
  have hrow := h.row
  have HH : Hid (RowO w rb ve vc vl vh l com lf hp) := h
  have HI : Hid (IRow w (.slice a1 n1 c1) lf0 ∧ VRow w (.slice a2 n2 c2) hp0) := ⟨i1, i2⟩
  have HB : Hid ((lf0 ≠ [] → (Value.slice a1 n1 c1).ownBlock ≠ some rb) ∧ (hp0 ≠ [] → (Value.slice a2 n2 c2).ownBlock ≠ some rb)) := ⟨b1, b2⟩
  obtain ⟨k0, k1, k2, k3⟩ := hrow.cells
  have z2 := hrow.frozen 2
  have z3 := hrow.frozen 3
  obtain ⟨k0', k1', k2', k3'⟩ := (rowAt_set3 hrow (.slice a2 n2 c2)).cells
  have z2' := (rowAt_set3 hrow (.slice a2 n2 c2)).frozen 2
  obtain ⟨k0'', k1'', k2'', k3''⟩ := (rowAt_set2 hrow (.slice a1 n1 c1)).cells
  have z3' := (rowAt_set2 hrow (.slice a1 n1 c1)).frozen 3
  have HR : Hid (RowAt w rb ve vc vl vh) := hrow
  clear h hp1 hq hr i1 i2 b1 b2 hrow k0 k1 k0' k1' k0'' k1'' k3' k2'' np nq nr
  go_enter Tryz.func43, Tryz.ntmps43
  go_wp2_with fail
  go_region_held3 (fun W => W.cell? ⟨r, 0, none⟩ = some (ptr rb) ∧ W.cell? ⟨p, 0, none⟩ = some (.slice a1 n1 c1) ∧ W.cell? ⟨q, 0, none⟩ = some (.slice a2 n2 c2)) ((exact HS.out _ (by repeat (first | exact Touch.refl _ _ | apply Touch.drew | (refine Touch.setCell ?_ (.inl (by simp)) _))))) (fail)
  all_goals (
    go_wp2
    go_end0
    refine ⟨rfl, ?_, ?_⟩
    · refine HH.out.set (w' := _) ?_ ?_ HI.out.1 HI.out.2 HB.out.1 HB.out.2
      · repeat (first | exact Touch.refl _ _ | apply Touch.drew | (refine Touch.setCell ?_ (.inl (by simp)) _))
      · first | exact rowAt_set3 (rowAt_set2 HR.out _) _ | exact rowAt_set2 (rowAt_set3 HR.out _) _
    · repeat (first | exact Touch.refl _ _ | apply Touch.drew | (refine Touch.setCell ?_ (.inl (by simp)) _)))

def serialP (l : List EvD) (o : List Int) : List EvD := o.flatMap fun a => cutS a l


end Go.Proofs.YtjacclbifeoclaaGreat
