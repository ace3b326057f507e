/-
  tried OF PACKAGE value, BY ITS CONTRACT, where the work gives up.
-/
import Derived.Test.YthkedpfbnaeaaabDoorValueInt
namespace Go.Proofs.YthkedpfbnaeaaabDoor
set_option linter.unusedVariables false
set_option linter.unusedSimpArgs false
open Go.RowKit

/-- It gives up. -/
def GivesUp (w : World) (e : Ending) (w' : World) : Prop := e = .panicked [{ v := .iface 53 (.agg #[]), recovered := false }] ∧ Touch w w' []

theorem need_no (w : World) : Calls Tryd.prog 20 #[.bool false] w (GivesUp w) := by
  go_enter Tryd.func20, Tryd.ntmps20
  go_wp2
  exact ⟨rfl, rfl, Touch.refl _ _⟩

theorem catchV_no (p : Addr) (w : World) (x : Bool) (u : TypeId) (pv : Value) (hc : w.cell? p = some (.bool x)) (hz : w.frozen? p = false) :
    CallsD Tryd.prog 37 #[.pointer (some p)] (.panicking [{ v := .iface u pv, recovered := false }]) w fun e u' w' => e = .returned (.tuple #[]) ∧ u' = .panicking [{ v := .iface u pv, recovered := true }] ∧ w' = w.setCell p (.bool false) := by
  refine callsD_of_wpS Tryd.func37 rfl fun c₀ cs hu => ?_
  apply wpS_region
  simp [wpOpsS, go_sem, recoverD, hu, Tryd.ntmps37, Exit.thenS]
  simp [wpOpsS, go_sem, hc, hz, bodyPostS, results, Tryd.results37]

set_option maxRecDepth 100000 in
theorem triedV_no (k : Nat) (cap : Array Value) (w : World) (hen : ∀ w1, (callFunc k cap).run Tryd.prog w1 = .ok (.enter k cap) w1) (hw : ∀ w1, Touch w w1 [] → Calls Tryd.prog k cap w1 (GivesUp w1)) :
    Calls Tryd.prog 18 #[.func (.func k) #[] cap] w fun e w' => e = .returned (.tuple #[.int .u64 0, .bool false]) ∧ Touch w w' [] := by
  have hmf : ∀ (fn : Fn) (first cap : Array Value) (w : World), (Instr.makeFunc fn first cap).run Tryd.prog w = .ok (.func fn first cap) w := fun _ _ _ _ => rfl
  go_enter_defers Tryd.func18, Tryd.ntmps18
  go_wp2_with fail
  refine (hw _ ((Touch.refl w []).alloc _)).mono ?_
  rintro e w1 ⟨rfl, t1⟩
  have c0 : w1.cell? ⟨w.heap.size, 0, none⟩ = some (.bool false) := (t1.cell (p := ⟨w.heap.size, 0, none⟩) (by simp) (by simp)).trans (by simp [go_sem])
  have f0 : w1.frozen? ⟨w.heap.size, 0, none⟩ = false := (t1.frozen (p := ⟨w.heap.size, 0, none⟩) (by simp) (by simp)).trans (by simp [go_sem])
  have HT : Hid (Touch w w1 []) := ((Touch.refl w []).alloc _).trans t1 (by simp)
  clear t1 hw
  go_wp2
  refine leaves_cons (f := 37) (args := #[.pointer (some ⟨w.heap.size, 0, none⟩)]) (by simp) (by simp [go_sem]) ?_
  refine (catchV_no ⟨w.heap.size, 0, none⟩ w1 false 53 (.agg #[]) c0 f0).mono ?_
  rintro e u' w'' ⟨rfl, rfl, rfl⟩
  have c2 : (w1.setCell ⟨w.heap.size, 0, none⟩ (.bool false)).cell? ⟨w.heap.size, 0, none⟩ = some (.bool false) := World.cell?_setCell_same _ _ _ c0
  have HT2 : Hid (Touch w (w1.setCell ⟨w.heap.size, 0, none⟩ (.bool false)) []) := HT.out.setCell (.inr (Nat.le_refl _)) _
  generalize w1.setCell ⟨w.heap.size, 0, none⟩ (.bool false) = w3 at *
  simp [Leaves, settle, results, Tryd.results18, go_sem, c2]
  exact HT2.out

theorem catchI_no (p : Addr) (w : World) (x : Bool) (u : TypeId) (pv : Value) (hc : w.cell? p = some (.bool x)) (hz : w.frozen? p = false) :
    CallsD Tryd.prog 40 #[.pointer (some p)] (.panicking [{ v := .iface u pv, recovered := false }]) w fun e u' w' => e = .returned (.tuple #[]) ∧ u' = .panicking [{ v := .iface u pv, recovered := true }] ∧ w' = w.setCell p (.bool false) := by
  refine callsD_of_wpS Tryd.func40 rfl fun c₀ cs hu => ?_
  apply wpS_region
  simp [wpOpsS, go_sem, recoverD, hu, Tryd.ntmps40, Exit.thenS]
  simp [wpOpsS, go_sem, hc, hz, bodyPostS, results, Tryd.results40]

set_option maxRecDepth 100000 in
theorem triedI_no (k : Nat) (cap : Array Value) (w : World) (hen : ∀ w1, (callFunc k cap).run Tryd.prog w1 = .ok (.enter k cap) w1) (hw : ∀ w1, Touch w w1 [] → Calls Tryd.prog k cap w1 (GivesUp w1)) :
    Calls Tryd.prog 22 #[.func (.func k) #[] cap] w fun e w' => e = .returned (.tuple #[.int .i64 0, .bool false]) ∧ Touch w w' [] := by
  have hmf : ∀ (fn : Fn) (first cap : Array Value) (w : World), (Instr.makeFunc fn first cap).run Tryd.prog w = .ok (.func fn first cap) w := fun _ _ _ _ => rfl
  go_enter_defers Tryd.func22, Tryd.ntmps22
  go_wp2_with fail
  refine (hw _ ((Touch.refl w []).alloc _)).mono ?_
  rintro e w1 ⟨rfl, t1⟩
  have c0 : w1.cell? ⟨w.heap.size, 0, none⟩ = some (.bool false) := (t1.cell (p := ⟨w.heap.size, 0, none⟩) (by simp) (by simp)).trans (by simp [go_sem])
  have f0 : w1.frozen? ⟨w.heap.size, 0, none⟩ = false := (t1.frozen (p := ⟨w.heap.size, 0, none⟩) (by simp) (by simp)).trans (by simp [go_sem])
  have HT : Hid (Touch w w1 []) := ((Touch.refl w []).alloc _).trans t1 (by simp)
  clear t1 hw
  go_wp2
  refine leaves_cons (f := 40) (args := #[.pointer (some ⟨w.heap.size, 0, none⟩)]) (by simp) (by simp [go_sem]) ?_
  refine (catchI_no ⟨w.heap.size, 0, none⟩ w1 false 53 (.agg #[]) c0 f0).mono ?_
  rintro e u' w'' ⟨rfl, rfl, rfl⟩
  have c2 : (w1.setCell ⟨w.heap.size, 0, none⟩ (.bool false)).cell? ⟨w.heap.size, 0, none⟩ = some (.bool false) := World.cell?_setCell_same _ _ _ c0
  have HT2 : Hid (Touch w (w1.setCell ⟨w.heap.size, 0, none⟩ (.bool false)) []) := HT.out.setCell (.inr (Nat.le_refl _)) _
  generalize w1.setCell ⟨w.heap.size, 0, none⟩ (.bool false) = w3 at *
  simp [Leaves, settle, results, Tryd.results22, go_sem, c2]
  exact HT2.out

theorem int1_no (p : Nat) (n : Int) (h : ¬ (-9007199254740992 ≤ n ∧ n ≤ 9007199254740992)) (w : World) (hc : w.cell? ⟨p, 0, none⟩ = some (.int .i64 n)) :
    Calls Tryd.prog 19 #[.pointer (some ⟨p, 0, none⟩)] w (GivesUp w) := by
  by_cases h0 : -9007199254740992 ≤ n
  · have h1 : ¬ n ≤ 9007199254740992 := fun k => h ⟨h0, k⟩
    clear h
    go_enter Tryd.func19, Tryd.ntmps19
    go_wp2_with fail
    refine (need_no w).mono ?_
    rintro e w1 ⟨rfl, t1⟩
    exact ⟨rfl, rfl, t1⟩
  · have h0' : decide (-9007199254740992 ≤ n) = false := decide_eq_false h0
    clear h
    go_enter Tryd.func19, Tryd.ntmps19
    go_wp2_with fail
    refine (need_no w).mono ?_
    rintro e w1 ⟨rfl, t1⟩
    exact ⟨rfl, rfl, t1⟩

theorem int_no (n : Int) (h : ¬ (-9007199254740992 ≤ n ∧ n ≤ 9007199254740992)) (w : World) :
    Calls Tryd.prog 5 #[.int .i64 n] w fun e w' => e = .returned (.tuple #[.int .u64 0, .bool false]) ∧ Touch w w' [] := by
  have hmf : ∀ (fn : Fn) (first cap : Array Value) (w : World), (Instr.makeFunc fn first cap).run Tryd.prog w = .ok (.func fn first cap) w := fun _ _ _ _ => rfl
  have hc := triedV_no 19 #[.pointer (some ⟨w.heap.size, 0, none⟩)] (w.alloc (.cells #[.int .i64 n] 3)) (enter_of Tryd.func19 (by kernel_rfl) (by kernel_rfl))
    (fun w1 t => int1_no w.heap.size n h w1 ((t.cell (p := ⟨w.heap.size, 0, none⟩) (by simp) (by simp)).trans (by simp [go_sem])))
  clear h
  go_enter Tryd.func5, Tryd.ntmps5
  go_wp2_with fail
  refine hc.mono ?_
  rintro e w1 ⟨rfl, t1⟩
  clear hc
  go_wp2
  go_ret2
  exact ⟨rfl, ((Touch.refl w []).alloc _).trans t1 (by simp)⟩

end Go.Proofs.YthkedpfbnaeaaabDoor
