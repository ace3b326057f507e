/-
  package locks AND THE DOCUMENT's: THE SMALL CALLS, BY THEIR CONTRACTS.
-/
import Derived.Test.YtcbkafbchpjnoaaGreatDoorAllA
import Derived.Test.YtcbkafbchpjnoaaGreatDoorCdSame
import Derived.Test.YtcbkafbchpjnoaaGreatDoorCdBox
namespace Go.Proofs.YtcbkafbchpjnoaaGreatDoor
set_option linter.unusedVariables false
set_option linter.unusedSimpArgs false
open Go.RowKit
attribute [local go_sem] Oper.semAt_some

/-- A number as a value. -/
def numV (n : Int) : Int := ((ofB (floatOfInt .f64 n) : Nat) : Int)
def insP (n : Int) : InsD := ⟨1, 0, numV n⟩
def insO (o a : Int) : InsD := ⟨o, a, 0⟩
theorem insO_v (o a : Int) : (insO o a).v = .agg #[.int .u8 o, .int .i64 a, .int .u64 0] := rfl
theorem insP_v (n : Int) : (insP n).v = .agg #[.int .u8 1, .int .i64 0, .int .u64 (numV n)] := rfl

theorem lget_any (t : Int) (w : World) : Calls Tryz.prog 120 #[.int .i64 t] w fun e w' => e = .returned (.agg #[.int .u8 4, .int .i64 t, .int .u64 0]) ∧ Touch w w' [] := by
  go_enter Tryz.func120, Tryz.ntmps120
  go_wp2
  (try simp only [Exit.inBlock, Exit.then])
  refine bodyPost_ret (v := .agg #[.int .u8 4, .int .i64 t, .int .u64 0]) ?_ rfl ⟨rfl, ?_⟩
  · rw [res_cellC rfl]
    go_simp
  · exact (Touch.refl _ _).alloc _

theorem lput_any (t : Int) (w : World) : Calls Tryz.prog 124 #[.int .i64 t] w fun e w' => e = .returned (.agg #[.int .u8 5, .int .i64 t, .int .u64 0]) ∧ Touch w w' [] := by
  go_enter Tryz.func124, Tryz.ntmps124
  go_wp2
  (try simp only [Exit.inBlock, Exit.then])
  refine bodyPost_ret (v := .agg #[.int .u8 5, .int .i64 t, .int .u64 0]) ?_ rfl ⟨rfl, ?_⟩
  · rw [res_cellC rfl]
    go_simp
  · exact (Touch.refl _ _).alloc _

theorem lto_any (o t : Int) (w : World) : Calls Tryz.prog 121 #[.int .u8 o, .int .i64 t] w fun e w' => e = .returned (.agg #[.int .u8 o, .int .i64 t, .int .u64 0]) ∧ Touch w w' [] := by
  go_enter Tryz.func121, Tryz.ntmps121
  go_wp2
  (try simp only [Exit.inBlock, Exit.then])
  refine bodyPost_ret (v := .agg #[.int .u8 o, .int .i64 t, .int .u64 0]) ?_ rfl ⟨rfl, ?_⟩
  · rw [res_cellC rfl]
    go_simp
  · exact (Touch.refl _ _).alloc _

theorem lop_any (o : Int) (w : World) : Calls Tryz.prog 122 #[.int .u8 o] w fun e w' => e = .returned (.agg #[.int .u8 o, .int .i64 0, .int .u64 0]) ∧ Touch w w' [] := by
  go_enter Tryz.func122, Tryz.ntmps122
  go_wp2
  (try simp only [Exit.inBlock, Exit.then])
  refine bodyPost_ret (v := .agg #[.int .u8 o, .int .i64 0, .int .u64 0]) ?_ rfl ⟨rfl, ?_⟩
  · rw [res_cellC rfl]
    go_simp
  · exact (Touch.refl _ _).alloc _

theorem rO_any (o t : Int) (w : World) : Calls Tryz.prog 35 #[.int .u8 o, .int .i64 t] w fun e w' => e = .returned (.agg #[.int .u8 o, .int .i64 t, .int .u64 0]) ∧ Touch w w' [] := by
  go_enter Tryz.func35, Tryz.ntmps35
  go_wp2
  (try simp only [Exit.inBlock, Exit.then])
  refine bodyPost_ret (v := .agg #[.int .u8 o, .int .i64 t, .int .u64 0]) ?_ rfl ⟨rfl, ?_⟩
  · rw [res_cellC rfl]
    go_simp
  · exact (Touch.refl _ _).alloc _

theorem lrow_any (v : Value) (w : World) : Calls Tryz.prog 119 #[v] w fun e w' => e = .returned v ∧ w = w' := by
  go_enter Tryz.func119, Tryz.ntmps119
  go_wp2
  go_ret
  exact ⟨rfl, rfl⟩

set_option maxRecDepth 100000 in
theorem lpush_any (n : Int) (h0 : -9007199254740992 ≤ n) (h1 : n ≤ 9007199254740992) (w : World) : Calls Tryz.prog 123 #[.int .i64 n] w fun e w' => e = .returned (.agg #[.int .u8 1, .int .i64 0, .int .u64 (numV n)]) ∧ Touch w w' [] := by
  have HC : Hid (∀ W, HidC Tryz.prog 36 #[.int .i64 n] W fun e w' => e = .returned (.tuple #[.int .u64 (numV n), .bool true]) ∧ Touch W w' []) := fun W => ⟨int_ok n h0 h1 _⟩
  have HB : Hid (BoxI (w.alloc (.cells #[.int .u8 0, .int .i64 0, .int .u64 0] 78)) w.heap.size 0 0 0) := BoxI.new w 0 0 0
  have HT : Hid (Touch w (w.alloc (.cells #[.int .u8 0, .int .i64 0, .int .u64 0] 78)) []) := (Touch.refl w []).alloc _
  generalize numV n = x at *
  clear h0 h1
  go_enter Tryz.func123, Tryz.ntmps123
  go_wp2_with fail
  generalize (w.alloc (.cells #[.int .u8 0, .int .i64 0, .int .u64 0] 78)) = Q at *
  refine (HC.out _).out.mono ?_
  rintro e w1 ⟨rfl, t1⟩
  have hb1 := HB.out.touch t1 (by simp)
  obtain ⟨z0, z1, z2⟩ := hb1.cells
  have f0 := hb1.fr 0
  have f1 := hb1.fr 1
  have f2 := hb1.fr 2
  have HB1 : Hid _ := hb1
  have HT1 : Hid _ := HT.out.trans t1 (by simp)
  clear t1 hb1
  go_wp2
  have hb2 := ((HB1.out.set0 1).set1 0).set2 x
  obtain ⟨k0, k1, k2⟩ := hb2.cells
  refine bodyPost_ret (v := .agg #[.int .u8 1, .int .i64 0, .int .u64 x]) ?_ rfl ⟨rfl, ?_⟩
  · rw [res_cellC rfl]
    simp [go_sem, k0, k1, k2]
  · exact HT1.out.trans ((((Touch.refl w1 [w.heap.size]).setCell (.inl (by simp)) _).setCell (.inl (by simp)) _).setCell (.inl (by simp)) _) (fun k hk => .inr (by simp at hk; omega))

set_option maxRecDepth 100000 in
theorem rP_any (n : Int) (h0 : -9007199254740992 ≤ n) (h1 : n ≤ 9007199254740992) (w : World) : Calls Tryz.prog 34 #[.int .i64 n] w fun e w' => e = .returned (.agg #[.int .u8 1, .int .i64 0, .int .u64 (numV n)]) ∧ Touch w w' [] := by
  have HC : Hid (∀ W, HidC Tryz.prog 37 #[.int .i64 n] W fun e w' => e = .returned (.tuple #[.int .u64 (numV n), .bool true]) ∧ Touch W w' []) := fun W => ⟨(rint_ok n h0 h1 _).mono (by rintro e w' ⟨rfl, rfl⟩; exact ⟨rfl, Touch.refl _ _⟩)⟩
  have HB : Hid (BoxI (w.alloc (.cells #[.int .u8 0, .int .i64 0, .int .u64 0] 78)) w.heap.size 0 0 0) := BoxI.new w 0 0 0
  have HT : Hid (Touch w (w.alloc (.cells #[.int .u8 0, .int .i64 0, .int .u64 0] 78)) []) := (Touch.refl w []).alloc _
  generalize numV n = x at *
  clear h0 h1
  go_enter Tryz.func34, Tryz.ntmps34
  go_wp2_with fail
  generalize (w.alloc (.cells #[.int .u8 0, .int .i64 0, .int .u64 0] 78)) = Q at *
  refine (HC.out _).out.mono ?_
  rintro e w1 ⟨rfl, t1⟩
  have hb1 := HB.out.touch t1 (by simp)
  obtain ⟨z0, z1, z2⟩ := hb1.cells
  have f0 := hb1.fr 0
  have f1 := hb1.fr 1
  have f2 := hb1.fr 2
  have HB1 : Hid _ := hb1
  have HT1 : Hid _ := HT.out.trans t1 (by simp)
  clear t1 hb1
  go_wp2
  have hb2 := ((HB1.out.set0 1).set1 0).set2 x
  obtain ⟨k0, k1, k2⟩ := hb2.cells
  refine bodyPost_ret (v := .agg #[.int .u8 1, .int .i64 0, .int .u64 x]) ?_ rfl ⟨rfl, ?_⟩
  · rw [res_cellC rfl]
    simp [go_sem, k0, k1, k2]
  · exact HT1.out.trans ((((Touch.refl w1 [w.heap.size]).setCell (.inl (by simp)) _).setCell (.inl (by simp)) _).setCell (.inl (by simp)) _) (fun k hk => .inr (by simp at hk; omega))

def goesP (o : Int) : Bool := decide (o = 21) || (decide (o = 19) || decide (o = 20))

theorem lgoes_any (o : Int) (w : World) : Calls Tryz.prog 145 #[.int .u8 o] w fun e w' => e = .returned (.bool (goesP o)) ∧ w = w' := by
  unfold goesP
  by_cases h1 : o = 21 <;> by_cases h2 : o = 19 <;> by_cases h3 : o = 20
  all_goals
    go_enter Tryz.func145, Tryz.ntmps145
    go_wp2
    go_ret
    refine ⟨?_, rfl⟩
    congr 2
    simp_all

theorem rplace_any (o : Int) (h23 : o ≠ 23) (h24 : o ≠ 24) (w : World) : Calls Tryz.prog 130 #[.int .u8 o] w fun e w' => e = .returned (.bool (goesP o)) ∧ w = w' := by
  unfold goesP
  by_cases h1 : o = 21 <;> by_cases h2 : o = 19 <;> by_cases h3 : o = 20
  all_goals
    go_enter Tryz.func130, Tryz.ntmps130
    go_wp2
    go_ret
    refine ⟨?_, rfl⟩
    congr 2
    simp_all

theorem lplace_any (n : Int) (w : World) : Calls Tryz.prog 115 #[.int .i64 n] w fun e w' => e = .returned (.bool (decide (0 ≤ n) && decide (n ≤ 64))) ∧ w = w' := by
  by_cases h1 : 0 ≤ n <;> by_cases h2 : n ≤ 64
  all_goals
    go_enter Tryz.func115, Tryz.ntmps115
    go_wp2
    go_ret
    refine ⟨?_, rfl⟩
    congr 2
    simp_all

theorem ltvar_any (n : Int) (w : World) : Calls Tryz.prog 116 #[.int .i64 n] w fun e w' => e = .returned (.bool (decide (0 ≤ n) && decide (n < 12))) ∧ w = w' := by
  by_cases h1 : 0 ≤ n <;> by_cases h2 : n < 12
  all_goals
    go_enter Tryz.func116, Tryz.ntmps116
    go_wp2
    go_ret
    refine ⟨?_, rfl⟩
    congr 2
    simp_all

theorem lthread_any (n : Int) (w : World) : Calls Tryz.prog 117 #[.int .i64 n] w fun e w' => e = .returned (.bool (decide (0 ≤ n) && decide (n < 4))) ∧ w = w' := by
  by_cases h1 : 0 ≤ n <;> by_cases h2 : n < 4
  all_goals
    go_enter Tryz.func117, Tryz.ntmps117
    go_wp2
    go_ret
    refine ⟨?_, rfl⟩
    congr 2
    simp_all

def mayP (a t w : Int) : Bool := decide (0 ≤ a) && decide (a ≤ 64) && (decide (0 ≤ t) && decide (t < 12)) && (decide (0 ≤ w) && decide (w < 4))

end Go.Proofs.YtcbkafbchpjnoaaGreatDoor
