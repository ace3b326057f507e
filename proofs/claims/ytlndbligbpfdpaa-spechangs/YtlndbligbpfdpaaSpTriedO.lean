/-
  package spec: tried BY ITS CONTRACT, around any work.
-/
import Derived.Test.YtlndbligbpfdpaaSpTried
namespace Go.Proofs.Ytlndbligbpfdpaa
set_option linter.unusedVariables false
set_option linter.unusedSimpArgs false
open Go.RowKit

/-- Behind tried: the work went from w1 to w2; then nothing but tried's own cells. -/
def TriedP (w : World) (S : List Nat) (R : World → World → Prop) (kind er : Int) (e : Ending) (w' : World) : Prop :=
  e = .returned (.tuple #[.int .u8 kind, .int .i64 er]) ∧ ∃ w1 w2, Touch w w1 [] ∧ Touch w1 w2 S ∧ R w1 w2 ∧ Touch w2 w' [w.heap.size, w.heap.size + 1]

set_option maxRecDepth 100000 in
theorem triedS_ok (k : Nat) (fs cs : Array Value) (v : Int) (w : World) (S : List Nat) (hS : ∀ x ∈ S, x < w.heap.size) (R : World → World → Prop) (hen : ∀ w1, (callFunc k (fs ++ cs)).run Try.prog w1 = .ok (.enter k (fs ++ cs)) w1) (hw : ∀ w1, Touch w w1 [] → w1.heap.size = w.heap.size + 2 → Calls Try.prog k (fs ++ cs) w1 fun e w' => e = .returned (.int .u8 v) ∧ Touch w1 w' S ∧ R w1 w') :
    Calls Try.prog 22 #[.func (.func k) fs cs] w (TriedP w S R v 0) := by
  have hmf : ∀ (fn : Fn) (first cap : Array Value) (w : World), (Instr.makeFunc fn first cap).run Try.prog w = .ok (.func fn first cap) w := fun _ _ _ _ => rfl
  have HW : Hid _ := hw
  have T1 : Touch w ((w.alloc (.cells #[.int .u8 0] 38)).alloc (.cells #[.int .i64 0] 29)) [] := ((Touch.refl w []).alloc _).alloc _
  have a0 : ((w.alloc (.cells #[.int .u8 0] 38)).alloc (.cells #[.int .i64 0] 29)).cell? ⟨w.heap.size, 0, none⟩ = some (.int .u8 0) := by simp [go_sem]
  have a1 : ((w.alloc (.cells #[.int .u8 0] 38)).alloc (.cells #[.int .i64 0] 29)).cell? ⟨w.heap.size + 1, 0, none⟩ = some (.int .i64 0) := by simp [go_sem]
  have b0 : ((w.alloc (.cells #[.int .u8 0] 38)).alloc (.cells #[.int .i64 0] 29)).frozen? ⟨w.heap.size, 0, none⟩ = false := by simp [go_sem]
  have b1 : ((w.alloc (.cells #[.int .u8 0] 38)).alloc (.cells #[.int .i64 0] 29)).frozen? ⟨w.heap.size + 1, 0, none⟩ = false := by simp [go_sem]
  have hs1 : ((w.alloc (.cells #[.int .u8 0] 38)).alloc (.cells #[.int .i64 0] 29)).heap.size = w.heap.size + 2 := by simp
  have n0 : w.heap.size ∉ S := fun q => Nat.lt_irrefl _ (hS _ q)
  have n1 : w.heap.size + 1 ∉ S := fun q => by have := hS _ q; omega
  clear hw
  go_enter_defers Try.func22, Try.ntmps22
  go_wp2_with fail
  generalize (w.alloc (.cells #[.int .u8 0] 38)).alloc (.cells #[.int .i64 0] 29) = W1 at *
  refine (HW.out _ T1 hs1).mono ?_
  rintro e w2 ⟨rfl, t2, hR⟩
  have c0 : w2.cell? ⟨w.heap.size, 0, none⟩ = some (.int .u8 0) := (t2.cell (p := ⟨w.heap.size, 0, none⟩) (by show w.heap.size < _; omega) n0).trans a0
  have c1 : w2.cell? ⟨w.heap.size + 1, 0, none⟩ = some (.int .i64 0) := (t2.cell (p := ⟨w.heap.size + 1, 0, none⟩) (by show w.heap.size + 1 < _; omega) n1).trans a1
  have f0 : w2.frozen? ⟨w.heap.size, 0, none⟩ = false := (t2.frozen (p := ⟨w.heap.size, 0, none⟩) (by show w.heap.size < _; omega) n0).trans b0
  have f1 : w2.frozen? ⟨w.heap.size + 1, 0, none⟩ = false := (t2.frozen (p := ⟨w.heap.size + 1, 0, none⟩) (by show w.heap.size + 1 < _; omega) n1).trans b1
  have HF : Hid (∀ w', Touch w2 w' [w.heap.size, w.heap.size + 1] → ∃ w1 w2, Touch w w1 [] ∧ Touch w1 w2 S ∧ R w1 w2 ∧ Touch w2 w' [w.heap.size, w.heap.size + 1]) := fun w' t => ⟨W1, w2, T1, t2, hR, t⟩
  clear a0 a1 b0 b1 HW hs1 T1 t2 hR
  have t3 : Touch w2 ((w2.setCell ⟨w.heap.size, 0, none⟩ (.int .u8 v)).setCell ⟨w.heap.size + 1, 0, none⟩ (.int .i64 0)) [w.heap.size, w.heap.size + 1] := ((Touch.refl w2 _).setCell (.inl (by simp)) _).setCell (.inl (by simp)) _
  have u0 : (w2.setCell ⟨w.heap.size, 0, none⟩ (.int .u8 v)).cell? ⟨w.heap.size, 0, none⟩ = some (.int .u8 v) := World.cell?_setCell_same _ _ _ c0
  have u1 : (w2.setCell ⟨w.heap.size, 0, none⟩ (.int .u8 v)).cell? ⟨w.heap.size + 1, 0, none⟩ = some (.int .i64 0) := (((Touch.refl w2 [w.heap.size]).setCell (p := ⟨w.heap.size, 0, none⟩) (.inl (by simp)) (.int .u8 v)).cell (p := ⟨w.heap.size + 1, 0, none⟩) (World.block_lt_of_cell? w2 _ c1) (by simp)).trans c1
  have d0 : ((w2.setCell ⟨w.heap.size, 0, none⟩ (.int .u8 v)).setCell ⟨w.heap.size + 1, 0, none⟩ (.int .i64 0)).cell? ⟨w.heap.size, 0, none⟩ = some (.int .u8 v) := (((Touch.refl (w2.setCell ⟨w.heap.size, 0, none⟩ (.int .u8 v)) [w.heap.size + 1]).setCell (p := ⟨w.heap.size + 1, 0, none⟩) (.inl (by simp)) (.int .i64 0)).cell (p := ⟨w.heap.size, 0, none⟩) (World.block_lt_of_cell? _ _ u0) (by simp)).trans u0
  have d1 : ((w2.setCell ⟨w.heap.size, 0, none⟩ (.int .u8 v)).setCell ⟨w.heap.size + 1, 0, none⟩ (.int .i64 0)).cell? ⟨w.heap.size + 1, 0, none⟩ = some (.int .i64 0) := World.cell?_setCell_same _ _ _ u1
  clear u0 u1
  go_wp2
  generalize (w2.setCell ⟨w.heap.size, 0, none⟩ (.int .u8 v)).setCell ⟨w.heap.size + 1, 0, none⟩ (.int .i64 0) = w3 at *
  refine leaves_cons (f := 39) (args := #[.pointer (some ⟨w.heap.size, 0, none⟩), .pointer (some ⟨w.heap.size + 1, 0, none⟩)]) (by simp) (by simp [go_sem]) ?_
  refine (catchS_idle ⟨w.heap.size, 0, none⟩ ⟨w.heap.size + 1, 0, none⟩ w3).mono ?_
  rintro e u' w'' ⟨rfl, rfl, rfl⟩
  simp [Leaves, settle, results, Try.results22, go_sem, d0, d1]
  exact ⟨rfl, HF.out _ t3⟩

set_option maxRecDepth 100000 in
theorem triedS_stuck (k : Nat) (fs cs : Array Value) (er : Int) (w : World) (S : List Nat) (hS : ∀ x ∈ S, x < w.heap.size) (R : World → World → Prop) (hen : ∀ w1, (callFunc k (fs ++ cs)).run Try.prog w1 = .ok (.enter k (fs ++ cs)) w1) (hw : ∀ w1, Touch w w1 [] → w1.heap.size = w.heap.size + 2 → Calls Try.prog k (fs ++ cs) w1 fun e w' => e = .panicked [{ v := .iface 78 (.agg #[.int .i64 er]), recovered := false }] ∧ Touch w1 w' S ∧ R w1 w') :
    Calls Try.prog 22 #[.func (.func k) fs cs] w (TriedP w S R 3 er) := by
  have hmf : ∀ (fn : Fn) (first cap : Array Value) (w : World), (Instr.makeFunc fn first cap).run Try.prog w = .ok (.func fn first cap) w := fun _ _ _ _ => rfl
  have HW : Hid _ := hw
  have T1 : Touch w ((w.alloc (.cells #[.int .u8 0] 38)).alloc (.cells #[.int .i64 0] 29)) [] := ((Touch.refl w []).alloc _).alloc _
  have a0 : ((w.alloc (.cells #[.int .u8 0] 38)).alloc (.cells #[.int .i64 0] 29)).cell? ⟨w.heap.size, 0, none⟩ = some (.int .u8 0) := by simp [go_sem]
  have a1 : ((w.alloc (.cells #[.int .u8 0] 38)).alloc (.cells #[.int .i64 0] 29)).cell? ⟨w.heap.size + 1, 0, none⟩ = some (.int .i64 0) := by simp [go_sem]
  have b0 : ((w.alloc (.cells #[.int .u8 0] 38)).alloc (.cells #[.int .i64 0] 29)).frozen? ⟨w.heap.size, 0, none⟩ = false := by simp [go_sem]
  have b1 : ((w.alloc (.cells #[.int .u8 0] 38)).alloc (.cells #[.int .i64 0] 29)).frozen? ⟨w.heap.size + 1, 0, none⟩ = false := by simp [go_sem]
  have hs1 : ((w.alloc (.cells #[.int .u8 0] 38)).alloc (.cells #[.int .i64 0] 29)).heap.size = w.heap.size + 2 := by simp
  have n0 : w.heap.size ∉ S := fun q => Nat.lt_irrefl _ (hS _ q)
  have n1 : w.heap.size + 1 ∉ S := fun q => by have := hS _ q; omega
  clear hw
  go_enter_defers Try.func22, Try.ntmps22
  go_wp2_with fail
  generalize (w.alloc (.cells #[.int .u8 0] 38)).alloc (.cells #[.int .i64 0] 29) = W1 at *
  refine (HW.out _ T1 hs1).mono ?_
  rintro e w2 ⟨rfl, t2, hR⟩
  have c0 : w2.cell? ⟨w.heap.size, 0, none⟩ = some (.int .u8 0) := (t2.cell (p := ⟨w.heap.size, 0, none⟩) (by show w.heap.size < _; omega) n0).trans a0
  have c1 : w2.cell? ⟨w.heap.size + 1, 0, none⟩ = some (.int .i64 0) := (t2.cell (p := ⟨w.heap.size + 1, 0, none⟩) (by show w.heap.size + 1 < _; omega) n1).trans a1
  have f0 : w2.frozen? ⟨w.heap.size, 0, none⟩ = false := (t2.frozen (p := ⟨w.heap.size, 0, none⟩) (by show w.heap.size < _; omega) n0).trans b0
  have f1 : w2.frozen? ⟨w.heap.size + 1, 0, none⟩ = false := (t2.frozen (p := ⟨w.heap.size + 1, 0, none⟩) (by show w.heap.size + 1 < _; omega) n1).trans b1
  have HF : Hid (∀ w', Touch w2 w' [w.heap.size, w.heap.size + 1] → ∃ w1 w2, Touch w w1 [] ∧ Touch w1 w2 S ∧ R w1 w2 ∧ Touch w2 w' [w.heap.size, w.heap.size + 1]) := fun w' t => ⟨W1, w2, T1, t2, hR, t⟩
  clear a0 a1 b0 b1 HW hs1 T1 t2 hR
  go_wp2
  refine leaves_cons (f := 39) (args := #[.pointer (some ⟨w.heap.size, 0, none⟩), .pointer (some ⟨w.heap.size + 1, 0, none⟩)]) (by simp) (by simp [go_sem]) ?_
  refine (catchS_stuck w.heap.size (w.heap.size + 1) w2 0 0 er c0 f0 c1 f1 (by omega)).mono ?_
  rintro e u' w3 ⟨rfl, rfl, ⟨d0, d1⟩, t3⟩
  simp [Leaves, settle, results, Try.results22, go_sem, d0, d1]
  exact ⟨rfl, HF.out _ t3⟩

set_option maxRecDepth 100000 in
theorem triedS_retried (k : Nat) (fs cs : Array Value) (w : World) (S : List Nat) (hS : ∀ x ∈ S, x < w.heap.size) (R : World → World → Prop) (hen : ∀ w1, (callFunc k (fs ++ cs)).run Try.prog w1 = .ok (.enter k (fs ++ cs)) w1) (hw : ∀ w1, Touch w w1 [] → w1.heap.size = w.heap.size + 2 → Calls Try.prog k (fs ++ cs) w1 fun e w' => e = .panicked [{ v := .iface 80 (.agg #[]), recovered := false }] ∧ Touch w1 w' S ∧ R w1 w') :
    Calls Try.prog 22 #[.func (.func k) fs cs] w (TriedP w S R 2 0) := by
  have hmf : ∀ (fn : Fn) (first cap : Array Value) (w : World), (Instr.makeFunc fn first cap).run Try.prog w = .ok (.func fn first cap) w := fun _ _ _ _ => rfl
  have HW : Hid _ := hw
  have T1 : Touch w ((w.alloc (.cells #[.int .u8 0] 38)).alloc (.cells #[.int .i64 0] 29)) [] := ((Touch.refl w []).alloc _).alloc _
  have a0 : ((w.alloc (.cells #[.int .u8 0] 38)).alloc (.cells #[.int .i64 0] 29)).cell? ⟨w.heap.size, 0, none⟩ = some (.int .u8 0) := by simp [go_sem]
  have a1 : ((w.alloc (.cells #[.int .u8 0] 38)).alloc (.cells #[.int .i64 0] 29)).cell? ⟨w.heap.size + 1, 0, none⟩ = some (.int .i64 0) := by simp [go_sem]
  have b0 : ((w.alloc (.cells #[.int .u8 0] 38)).alloc (.cells #[.int .i64 0] 29)).frozen? ⟨w.heap.size, 0, none⟩ = false := by simp [go_sem]
  have b1 : ((w.alloc (.cells #[.int .u8 0] 38)).alloc (.cells #[.int .i64 0] 29)).frozen? ⟨w.heap.size + 1, 0, none⟩ = false := by simp [go_sem]
  have hs1 : ((w.alloc (.cells #[.int .u8 0] 38)).alloc (.cells #[.int .i64 0] 29)).heap.size = w.heap.size + 2 := by simp
  have n0 : w.heap.size ∉ S := fun q => Nat.lt_irrefl _ (hS _ q)
  have n1 : w.heap.size + 1 ∉ S := fun q => by have := hS _ q; omega
  clear hw
  go_enter_defers Try.func22, Try.ntmps22
  go_wp2_with fail
  generalize (w.alloc (.cells #[.int .u8 0] 38)).alloc (.cells #[.int .i64 0] 29) = W1 at *
  refine (HW.out _ T1 hs1).mono ?_
  rintro e w2 ⟨rfl, t2, hR⟩
  have c0 : w2.cell? ⟨w.heap.size, 0, none⟩ = some (.int .u8 0) := (t2.cell (p := ⟨w.heap.size, 0, none⟩) (by show w.heap.size < _; omega) n0).trans a0
  have c1 : w2.cell? ⟨w.heap.size + 1, 0, none⟩ = some (.int .i64 0) := (t2.cell (p := ⟨w.heap.size + 1, 0, none⟩) (by show w.heap.size + 1 < _; omega) n1).trans a1
  have f0 : w2.frozen? ⟨w.heap.size, 0, none⟩ = false := (t2.frozen (p := ⟨w.heap.size, 0, none⟩) (by show w.heap.size < _; omega) n0).trans b0
  have f1 : w2.frozen? ⟨w.heap.size + 1, 0, none⟩ = false := (t2.frozen (p := ⟨w.heap.size + 1, 0, none⟩) (by show w.heap.size + 1 < _; omega) n1).trans b1
  have HF : Hid (∀ w', Touch w2 w' [w.heap.size, w.heap.size + 1] → ∃ w1 w2, Touch w w1 [] ∧ Touch w1 w2 S ∧ R w1 w2 ∧ Touch w2 w' [w.heap.size, w.heap.size + 1]) := fun w' t => ⟨W1, w2, T1, t2, hR, t⟩
  clear a0 a1 b0 b1 HW hs1 T1 t2 hR
  go_wp2
  refine leaves_cons (f := 39) (args := #[.pointer (some ⟨w.heap.size, 0, none⟩), .pointer (some ⟨w.heap.size + 1, 0, none⟩)]) (by simp) (by simp [go_sem]) ?_
  refine (catchS_retried w.heap.size (w.heap.size + 1) w2 0 c0 f0).mono ?_
  rintro e u' w3 ⟨rfl, rfl, d0, t3⟩
  have d1 := (t3.cell (p := ⟨w.heap.size + 1, 0, none⟩) (World.block_lt_of_cell? w2 _ c1) (by simp)).trans c1
  simp [Leaves, settle, results, Try.results22, go_sem, d0, d1]
  exact ⟨rfl, HF.out _ (t3.mono (by simp))⟩

end Go.Proofs.Ytlndbligbpfdpaa
