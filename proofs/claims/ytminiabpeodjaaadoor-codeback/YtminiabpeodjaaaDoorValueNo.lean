/-
  tried OF PACKAGE value, BY ITS CONTRACT, where the work gives up.
-/
import Derived.Test.YtminiabpeodjaaaDoorAllA
namespace Go.Proofs.YtminiabpeodjaaaDoor
set_option linter.unusedVariables false
set_option linter.unusedSimpArgs false
open Go.RowKit

/-- It gives up. -/
def GivesUp (w : World) (e : Ending) (w' : World) : Prop := e = .panicked [{ v := .iface 124 (.agg #[]), recovered := false }] ∧ Touch w w' []

theorem need_no (w : World) : Calls Tryd.prog 79 #[.bool false] w (GivesUp w) := by
  go_enter Tryd.func79, Tryd.ntmps79
  go_wp2
  exact ⟨rfl, rfl, Touch.refl _ _⟩

theorem catchV_no (p : Addr) (w : World) (x : Bool) (u : TypeId) (pv : Value) (hc : w.cell? p = some (.bool x)) (hz : w.frozen? p = false) :
    CallsD Tryd.prog 77 #[.pointer (some p)] (.panicking [{ v := .iface u pv, recovered := false }]) w fun e u' w' => e = .returned (.tuple #[]) ∧ u' = .panicking [{ v := .iface u pv, recovered := true }] ∧ w' = w.setCell p (.bool false) := by
  refine callsD_of_wpS Tryd.func77 rfl fun c₀ cs hu => ?_
  apply wpS_region
  simp [wpOpsS, go_sem, recoverD, hu, Tryd.ntmps77, Exit.thenS]
  simp [wpOpsS, go_sem, hc, hz, bodyPostS, results, Tryd.results77]

set_option maxRecDepth 100000 in
theorem triedV_no (k : Nat) (cap : Array Value) (w : World) (hen : ∀ w1, (callFunc k cap).run Tryd.prog w1 = .ok (.enter k cap) w1) (hw : ∀ w1, Touch w w1 [] → Calls Tryd.prog k cap w1 (GivesUp w1)) :
    Calls Tryd.prog 63 #[.func (.func k) #[] cap] w fun e w' => e = .returned (.tuple #[.int .u64 0, .bool false]) ∧ Touch w w' [] := by
  have hmf : ∀ (fn : Fn) (first cap : Array Value) (w : World), (Instr.makeFunc fn first cap).run Tryd.prog w = .ok (.func fn first cap) w := fun _ _ _ _ => rfl
  go_enter_defers Tryd.func63, Tryd.ntmps63
  go_wp2_with fail
  refine (hw _ ((Touch.refl w []).alloc _)).mono ?_
  rintro e w1 ⟨rfl, t1⟩
  have c0 : w1.cell? ⟨w.heap.size, 0, none⟩ = some (.bool false) := (t1.cell (p := ⟨w.heap.size, 0, none⟩) (by simp) (by simp)).trans (by simp [go_sem])
  have f0 : w1.frozen? ⟨w.heap.size, 0, none⟩ = false := (t1.frozen (p := ⟨w.heap.size, 0, none⟩) (by simp) (by simp)).trans (by simp [go_sem])
  have HT : Hid (Touch w w1 []) := ((Touch.refl w []).alloc _).trans t1 (by simp)
  clear t1 hw
  go_wp2
  refine leaves_cons (f := 77) (args := #[.pointer (some ⟨w.heap.size, 0, none⟩)]) (by simp) (by simp [go_sem]) ?_
  refine (catchV_no ⟨w.heap.size, 0, none⟩ w1 false 124 (.agg #[]) c0 f0).mono ?_
  rintro e u' w'' ⟨rfl, rfl, rfl⟩
  have c2 : (w1.setCell ⟨w.heap.size, 0, none⟩ (.bool false)).cell? ⟨w.heap.size, 0, none⟩ = some (.bool false) := World.cell?_setCell_same _ _ _ c0
  have HT2 : Hid (Touch w (w1.setCell ⟨w.heap.size, 0, none⟩ (.bool false)) []) := HT.out.setCell (.inr (Nat.le_refl _)) _
  generalize w1.setCell ⟨w.heap.size, 0, none⟩ (.bool false) = w3 at *
  simp [Leaves, settle, results, Tryd.results63, go_sem, c2]
  exact HT2.out

end Go.Proofs.YtminiabpeodjaaaDoor
