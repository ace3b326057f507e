/-
  tried OF PACKAGE value, BY ITS CONTRACT, where the work comes back.
-/
import Derived.Test.YthkedpfbnaeaaaaDoorValueLess
import Derived.Test.YthkedpfbnaeaaaaDoorTouchBase
import Derived.Defers
import Derived.Recover
import Derived.Laws.Pointers
namespace Go.Proofs.YthkedpfbnaeaaaaDoor
set_option linter.unusedVariables false
set_option linter.unusedSimpArgs false
open Go.RowKit

theorem catchV_idle (p : Addr) (w : World) (x : Bool) (hc : w.cell? p = some (.bool x)) (hz : w.frozen? p = false) :
    CallsD Tryd.prog 62 #[.pointer (some p)] .returning w fun e u' w' => e = .returned (.tuple #[]) ∧ u' = .returning ∧ w' = w.setCell p (.bool true) := by
  refine callsD_of_wpS Tryd.func62 rfl fun c₀ cs hu => ?_
  apply wpS_region
  simp [wpOpsS, go_sem, recoverD, hu, Tryd.ntmps62, Exit.thenS]
  simp [wpOpsS, go_sem, hc, hz, bodyPostS, results, Tryd.results62]
  cases c₀
  simp_all

set_option maxRecDepth 100000 in
theorem triedV_ok (k : Nat) (cap : Array Value) (v : Int) (w : World) (hen : ∀ w1, (callFunc k cap).run Tryd.prog w1 = .ok (.enter k cap) w1) (hw : ∀ w1, Touch w w1 [] → Calls Tryd.prog k cap w1 fun e w' => e = .returned (.int .u64 v) ∧ Touch w1 w' []) :
    Calls Tryd.prog 54 #[.func (.func k) #[] cap] w fun e w' => e = .returned (.tuple #[.int .u64 v, .bool true]) ∧ Touch w w' [] := by
  have hmf : ∀ (fn : Fn) (first cap : Array Value) (w : World), (Instr.makeFunc fn first cap).run Tryd.prog w = .ok (.func fn first cap) w := fun _ _ _ _ => rfl
  go_enter_defers Tryd.func54, Tryd.ntmps54
  go_wp2_with fail
  refine (hw _ ((Touch.refl w []).alloc _)).mono ?_
  rintro e w1 ⟨rfl, t1⟩
  have c0 : w1.cell? ⟨w.heap.size, 0, none⟩ = some (.bool false) := (t1.cell (p := ⟨w.heap.size, 0, none⟩) (by simp) (by simp)).trans (by simp [go_sem])
  have f0 : w1.frozen? ⟨w.heap.size, 0, none⟩ = false := (t1.frozen (p := ⟨w.heap.size, 0, none⟩) (by simp) (by simp)).trans (by simp [go_sem])
  have HT : Hid (Touch w w1 []) := ((Touch.refl w []).alloc _).trans t1 (by simp)
  clear t1 hw
  go_wp2
  have c1 : (w1.setCell ⟨w.heap.size, 0, none⟩ (.bool true)).cell? ⟨w.heap.size, 0, none⟩ = some (.bool true) := World.cell?_setCell_same _ _ _ c0
  have f1 : (w1.setCell ⟨w.heap.size, 0, none⟩ (.bool true)).frozen? ⟨w.heap.size, 0, none⟩ = false := by simp [f0]
  have HT1 : Hid (Touch w (w1.setCell ⟨w.heap.size, 0, none⟩ (.bool true)) []) := HT.out.setCell (.inr (Nat.le_refl _)) _
  generalize w1.setCell ⟨w.heap.size, 0, none⟩ (.bool true) = w2 at *
  clear c0 f0 HT
  refine leaves_cons (f := 62) (args := #[.pointer (some ⟨w.heap.size, 0, none⟩)]) (by simp) (by simp [go_sem]) ?_
  refine (catchV_idle ⟨w.heap.size, 0, none⟩ w2 true c1 f1).mono ?_
  rintro e u' w'' ⟨rfl, rfl, rfl⟩
  have c2 : (w2.setCell ⟨w.heap.size, 0, none⟩ (.bool true)).cell? ⟨w.heap.size, 0, none⟩ = some (.bool true) := World.cell?_setCell_same _ _ _ c1
  have HT2 : Hid (Touch w (w2.setCell ⟨w.heap.size, 0, none⟩ (.bool true)) []) := HT1.out.setCell (.inr (Nat.le_refl _)) _
  generalize w2.setCell ⟨w.heap.size, 0, none⟩ (.bool true) = w3 at *
  simp [Leaves, settle, results, Tryd.results54, go_sem, c2]
  exact HT2.out

theorem catchI_idle (p : Addr) (w : World) (x : Bool) (hc : w.cell? p = some (.bool x)) (hz : w.frozen? p = false) :
    CallsD Tryd.prog 63 #[.pointer (some p)] .returning w fun e u' w' => e = .returned (.tuple #[]) ∧ u' = .returning ∧ w' = w.setCell p (.bool true) := by
  refine callsD_of_wpS Tryd.func63 rfl fun c₀ cs hu => ?_
  apply wpS_region
  simp [wpOpsS, go_sem, recoverD, hu, Tryd.ntmps63, Exit.thenS]
  simp [wpOpsS, go_sem, hc, hz, bodyPostS, results, Tryd.results63]
  cases c₀
  simp_all

set_option maxRecDepth 100000 in
theorem triedI_ok (k : Nat) (cap : Array Value) (v : Int) (w : World) (hen : ∀ w1, (callFunc k cap).run Tryd.prog w1 = .ok (.enter k cap) w1) (hw : ∀ w1, Touch w w1 [] → Calls Tryd.prog k cap w1 fun e w' => e = .returned (.int .i64 v) ∧ Touch w1 w' []) :
    Calls Tryd.prog 57 #[.func (.func k) #[] cap] w fun e w' => e = .returned (.tuple #[.int .i64 v, .bool true]) ∧ Touch w w' [] := by
  have hmf : ∀ (fn : Fn) (first cap : Array Value) (w : World), (Instr.makeFunc fn first cap).run Tryd.prog w = .ok (.func fn first cap) w := fun _ _ _ _ => rfl
  go_enter_defers Tryd.func57, Tryd.ntmps57
  go_wp2_with fail
  refine (hw _ ((Touch.refl w []).alloc _)).mono ?_
  rintro e w1 ⟨rfl, t1⟩
  have c0 : w1.cell? ⟨w.heap.size, 0, none⟩ = some (.bool false) := (t1.cell (p := ⟨w.heap.size, 0, none⟩) (by simp) (by simp)).trans (by simp [go_sem])
  have f0 : w1.frozen? ⟨w.heap.size, 0, none⟩ = false := (t1.frozen (p := ⟨w.heap.size, 0, none⟩) (by simp) (by simp)).trans (by simp [go_sem])
  have HT : Hid (Touch w w1 []) := ((Touch.refl w []).alloc _).trans t1 (by simp)
  clear t1 hw
  go_wp2
  have c1 : (w1.setCell ⟨w.heap.size, 0, none⟩ (.bool true)).cell? ⟨w.heap.size, 0, none⟩ = some (.bool true) := World.cell?_setCell_same _ _ _ c0
  have f1 : (w1.setCell ⟨w.heap.size, 0, none⟩ (.bool true)).frozen? ⟨w.heap.size, 0, none⟩ = false := by simp [f0]
  have HT1 : Hid (Touch w (w1.setCell ⟨w.heap.size, 0, none⟩ (.bool true)) []) := HT.out.setCell (.inr (Nat.le_refl _)) _
  generalize w1.setCell ⟨w.heap.size, 0, none⟩ (.bool true) = w2 at *
  clear c0 f0 HT
  refine leaves_cons (f := 63) (args := #[.pointer (some ⟨w.heap.size, 0, none⟩)]) (by simp) (by simp [go_sem]) ?_
  refine (catchI_idle ⟨w.heap.size, 0, none⟩ w2 true c1 f1).mono ?_
  rintro e u' w'' ⟨rfl, rfl, rfl⟩
  have c2 : (w2.setCell ⟨w.heap.size, 0, none⟩ (.bool true)).cell? ⟨w.heap.size, 0, none⟩ = some (.bool true) := World.cell?_setCell_same _ _ _ c1
  have HT2 : Hid (Touch w (w2.setCell ⟨w.heap.size, 0, none⟩ (.bool true)) []) := HT1.out.setCell (.inr (Nat.le_refl _)) _
  generalize w2.setCell ⟨w.heap.size, 0, none⟩ (.bool true) = w3 at *
  simp [Leaves, settle, results, Tryd.results57, go_sem, c2]
  exact HT2.out

end Go.Proofs.YthkedpfbnaeaaaaDoor
