/-
  package spec: tried BY ITS CONTRACT.
-/
import Derived.Test.YtlndbligbpfdpaaSpStep
import Derived.Defers
import Derived.Recover
import Derived.Laws.Pointers
namespace Go.Proofs.Ytlndbligbpfdpaa
set_option linter.unusedVariables false
set_option linter.unusedSimpArgs false
open Go.RowKit

theorem tas_nil (w : World) : (Instr.typeAssert .nilIface 20 78 true).run Try.prog w = .ok (.tuple #[.agg #[.int .i64 0], .bool false]) w := by
  simp only [Instr.typeAssert, Sem.run_bind, run_underlying Try.underlying78, Result.andThen_ok]
  kernel_rfl
theorem tar_nil (w : World) : (Instr.typeAssert .nilIface 20 80 true).run Try.prog w = .ok (.tuple #[.agg #[], .bool false]) w := by
  simp only [Instr.typeAssert, Sem.run_bind, run_underlying Try.underlying80, Result.andThen_ok]
  kernel_rfl
theorem tas_hit (w : World) (v : Value) : (Instr.typeAssert (.iface 78 v) 20 78 true).run Try.prog w = .ok (.tuple #[v, .bool true]) w := by
  simp only [Instr.typeAssert, Sem.run_bind, run_underlying Try.underlying78, Result.andThen_ok]
  kernel_rfl
theorem tas_miss (w : World) (v : Value) : (Instr.typeAssert (.iface 80 v) 20 78 true).run Try.prog w = .ok (.tuple #[.agg #[.int .i64 0], .bool false]) w := by
  simp only [Instr.typeAssert, Sem.run_bind, run_underlying Try.underlying78, Result.andThen_ok]
  kernel_rfl
theorem tar_hit (w : World) (v : Value) : (Instr.typeAssert (.iface 80 v) 20 80 true).run Try.prog w = .ok (.tuple #[v, .bool true]) w := by
  simp only [Instr.typeAssert, Sem.run_bind, run_underlying Try.underlying80, Result.andThen_ok]
  kernel_rfl
theorem tmpsS (p q : Addr) (v : Value) : (#[Value.pointer (some p), Value.pointer (some q)] ++ (Array.replicate 11 undef).setIfInBounds 2 v : Array Value) = #[.pointer (some p), .pointer (some q), undef, undef, v, undef, undef, undef, undef, undef, undef, undef, undef] := rfl

set_option maxRecDepth 100000 in
theorem catchS_idle (p q : Addr) (w : World) :
    CallsD Try.prog 39 #[.pointer (some p), .pointer (some q)] .returning w fun e u' w' => e = .returned (.tuple #[]) ∧ u' = .returning ∧ w' = w := by
  refine callsD_of_wpS Try.func39 rfl fun c₀ cs hu => ?_
  apply wpS_seq
  apply wpS_region
  simp [wpOpsS, go_sem, recoverD, hu, Try.ntmps39, Exit.thenS]
  rw [tmpsS]
  have ta0 := tas_nil
  have ta1 := tar_nil
  refine wpS_of_wp ?_
  go_wp2
  simp [bodyPostS, results, Try.results39]
  cases c₀
  simp_all

set_option maxRecDepth 100000 in
theorem catchS_retried (g h : Nat) (w : World) (x : Int) (hc : w.cell? ⟨g, 0, none⟩ = some (.int .u8 x)) (hz : w.frozen? ⟨g, 0, none⟩ = false) :
    CallsD Try.prog 39 #[.pointer (some ⟨g, 0, none⟩), .pointer (some ⟨h, 0, none⟩)] (.panicking [{ v := .iface 80 (.agg #[]), recovered := false }]) w fun e u' w' => e = .returned (.tuple #[]) ∧ u' = .panicking [{ v := .iface 80 (.agg #[]), recovered := true }] ∧ w'.cell? ⟨g, 0, none⟩ = some (.int .u8 2) ∧ Touch w w' [g] := by
  refine callsD_of_wpS Try.func39 rfl fun c₀ cs hu => ?_
  apply wpS_seq
  apply wpS_region
  simp [wpOpsS, go_sem, recoverD, hu, Try.ntmps39, Exit.thenS]
  rw [tmpsS]
  have ta3 := tas_miss
  have ta4 := tar_hit
  refine wpS_of_wp ?_
  have hg := World.block_lt_of_cell? w _ hc
  have t0 : Touch w (w.alloc (.cells #[] 80)) [] := (Touch.refl w []).alloc _
  have c0 := (t0.cell (p := ⟨g, 0, none⟩) hg (by simp)).trans hc
  have f0 := (t0.frozen (p := ⟨g, 0, none⟩) hg (by simp)).trans hz
  have HT : Hid (Touch w ((w.alloc (.cells #[] 80)).setCell ⟨g, 0, none⟩ (.int .u8 2)) [g]) := (t0.mono (by simp)).setCell (.inl (by simp)) _
  have HC : Hid _ := World.cell?_setCell_same _ _ (.int .u8 2) c0
  clear hc hz t0 hg
  go_wp2
  simp [bodyPostS, results, Try.results39]
  exact ⟨HC.out, HT.out⟩

set_option maxRecDepth 100000 in
theorem catchS_stuck (g h : Nat) (w : World) (x y er : Int) (hc : w.cell? ⟨g, 0, none⟩ = some (.int .u8 x)) (hz : w.frozen? ⟨g, 0, none⟩ = false) (hd : w.cell? ⟨h, 0, none⟩ = some (.int .i64 y)) (hy : w.frozen? ⟨h, 0, none⟩ = false) (hne : g ≠ h) :
    CallsD Try.prog 39 #[.pointer (some ⟨g, 0, none⟩), .pointer (some ⟨h, 0, none⟩)] (.panicking [{ v := .iface 78 (.agg #[.int .i64 er]), recovered := false }]) w fun e u' w' => e = .returned (.tuple #[]) ∧ u' = .panicking [{ v := .iface 78 (.agg #[.int .i64 er]), recovered := true }] ∧ (w'.cell? ⟨g, 0, none⟩ = some (.int .u8 3) ∧ w'.cell? ⟨h, 0, none⟩ = some (.int .i64 er)) ∧ Touch w w' [g, h] := by
  refine callsD_of_wpS Try.func39 rfl fun c₀ cs hu => ?_
  apply wpS_seq
  apply wpS_region
  simp [wpOpsS, go_sem, recoverD, hu, Try.ntmps39, Exit.thenS]
  rw [tmpsS]
  have ta2 := tas_hit
  refine wpS_of_wp ?_
  have hg := World.block_lt_of_cell? w _ hc
  have hh := World.block_lt_of_cell? w _ hd
  have t0 : Touch w (w.alloc (.cells #[.int .i64 er] 78)) [] := (Touch.refl w []).alloc _
  have c0 := (t0.cell (p := ⟨g, 0, none⟩) hg (by simp)).trans hc
  have f0 := (t0.frozen (p := ⟨g, 0, none⟩) hg (by simp)).trans hz
  have c1 := (t0.cell (p := ⟨h, 0, none⟩) hh (by simp)).trans hd
  have f1 := (t0.frozen (p := ⟨h, 0, none⟩) hh (by simp)).trans hy
  have b0 : (w.alloc (.cells #[.int .i64 er] 78)).cell? ⟨w.heap.size, 0, none⟩ = some (.int .i64 er) := by simp [go_sem]
  have hgs : g ≠ w.heap.size := Nat.ne_of_lt hg
  have hhs : h ≠ w.heap.size := Nat.ne_of_lt hh
  clear hc hz hd hy hg hh
  go_wp2_with fail
  generalize hQ : w.alloc (.cells #[.int .i64 er] 78) = Q at *
  clear hQ
  have c0' : Q.drew.cell? ⟨g, 0, none⟩ = some (.int .u8 x) := c0
  have c1' : Q.drew.cell? ⟨h, 0, none⟩ = some (.int .i64 y) := c1
  have b0' : Q.drew.cell? ⟨w.heap.size, 0, none⟩ = some (.int .i64 er) := b0
  have f0' : Q.drew.frozen? ⟨g, 0, none⟩ = false := f0
  have f1' : Q.drew.frozen? ⟨h, 0, none⟩ = false := f1
  have HT : Hid (Touch w ((Q.setCell ⟨g, 0, none⟩ (.int .u8 3)).setCell ⟨h, 0, none⟩ (.int .i64 er)).drew [g, h]) := (((t0.mono (by simp)).setCell (.inl (by simp)) _).setCell (.inl (by simp)) _).drew
  have u0 : (Q.setCell ⟨g, 0, none⟩ (.int .u8 3)).cell? ⟨g, 0, none⟩ = some (.int .u8 3) := World.cell?_setCell_same _ _ _ c0
  have u1 : (Q.setCell ⟨g, 0, none⟩ (.int .u8 3)).cell? ⟨h, 0, none⟩ = some (.int .i64 y) := (((Touch.refl Q [g]).setCell (p := ⟨g, 0, none⟩) (.inl (by simp)) (.int .u8 3)).cell (p := ⟨h, 0, none⟩) (World.block_lt_of_cell? Q _ c1) (by simp; omega)).trans c1
  have HC0 : Hid (((Q.setCell ⟨g, 0, none⟩ (.int .u8 3)).setCell ⟨h, 0, none⟩ (.int .i64 er)).drew.cell? ⟨g, 0, none⟩ = some (.int .u8 3)) := (((Touch.refl (Q.setCell ⟨g, 0, none⟩ (.int .u8 3)) [h]).setCell (p := ⟨h, 0, none⟩) (.inl (by simp)) (.int .i64 er)).drew.cell (p := ⟨g, 0, none⟩) (World.block_lt_of_cell? _ _ u0) (by simp; omega)).trans u0
  have HC1 : Hid (((Q.setCell ⟨g, 0, none⟩ (.int .u8 3)).setCell ⟨h, 0, none⟩ (.int .i64 er)).drew.cell? ⟨h, 0, none⟩ = some (.int .i64 er)) := World.cell?_setCell_same _ _ _ u1
  clear u0 u1
  go_region
  generalize ((Q.setCell ⟨g, 0, none⟩ (.int .u8 3)).setCell ⟨h, 0, none⟩ (.int .i64 er)).drew = W5 at *
  go_wp2
  simp [bodyPostS, results, Try.results39]
  exact ⟨⟨HC0.out, HC1.out⟩, HT.out⟩

end Go.Proofs.Ytlndbligbpfdpaa
