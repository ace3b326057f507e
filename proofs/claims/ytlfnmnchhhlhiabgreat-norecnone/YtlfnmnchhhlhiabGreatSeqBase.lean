/-
  package seqlock's small calls BY THEIR CONTRACTS: need, held, become.
-/
import Derived.Test.YtlfnmnchhhlhiabGreatTouchBase
import Derived.Defers
import Derived.Recover
import Derived.Laws.Pointers
namespace Go.Proofs.YtlfnmnchhhlhiabGreat.Sq
set_option linter.unusedVariables false
set_option linter.unusedSimpArgs false
open Go.RowKit

/-- It gives up by e. -/
def Refuses (e : Int) (w : World) (x : Ending) (w' : World) : Prop := x = .panicked [{ v := .iface 198 (.int .i64 e), recovered := false }] ∧ Touch w w' []

theorem sneed_yes (e : Int) (w : World) : Calls Tryz.prog 104 #[.bool true, .int .i64 e] w fun x w' => x = .returned (.tuple #[]) ∧ w = w' := by
  go_enter Tryz.func104, Tryz.ntmps104
  go_wp2
  go_end0
  exact ⟨rfl, rfl⟩

theorem sneed_no (e : Int) (w : World) : Calls Tryz.prog 104 #[.bool false, .int .i64 e] w (Refuses e w) := by
  go_enter Tryz.func104, Tryz.ntmps104
  go_wp2
  exact ⟨rfl, rfl, Touch.refl _ _⟩

theorem sheld_any (c o : Int) (hc : 0 ≤ c) (w : World) : Calls Tryz.prog 105 #[.agg #[.int .u64 c, .int .i64 o]] w fun x w' => x = .returned (.bool (decide (c % 2 = 1))) ∧ Touch w w' [] := by
  go_enter Tryz.func105, Tryz.ntmps105
  go_wp2
  go_ret
  exact ⟨rfl, (Touch.refl _ _).alloc _⟩

/-- A lock that counts c; o has it. -/
structure LObj (w : World) (b : Nat) (c o : Int) : Prop where
  st : w.heap[b]? = some (.cells #[.int .u64 c, .int .i64 o] 134 (0, 0))

theorem LObj.touch {w w' : World} {b : Nat} {c o : Int} {S : List Nat} (h : LObj w b c o) (t : Touch w w' S) (hS : b ∉ S) : LObj w' b c o := ⟨(t.block b (lt_of_heap h.st) hS).trans h.st⟩
theorem LObj.cells {w : World} {b : Nat} {c o : Int} (h : LObj w b c o) : w.cell? ⟨b, 0, none⟩ = some (.int .u64 c) ∧ w.cell? ⟨b, 1, none⟩ = some (.int .i64 o) ∧ w.frozen? ⟨b, 0, none⟩ = false ∧ w.frozen? ⟨b, 1, none⟩ = false := by
  simp [World.cell?, World.frozen?, h.st]
theorem LObj.set {w : World} {b : Nat} {c o : Int} (h : LObj w b c o) (c' o' : Int) : LObj ((w.setCell ⟨b, 0, none⟩ (.int .u64 c')).setCell ⟨b, 1, none⟩ (.int .i64 o')) b c' o' := by
  refine ⟨?_⟩
  simp [World.setCell, Array.getElem?_modify, h.st]

theorem ta_hit (v : Value) (w : World) : (Instr.typeAssert (.iface 198 v) 20 198 true).run Tryz.prog w = .ok (.tuple #[v, .bool true]) w := by
  simp only [Instr.typeAssert, Sem.run_bind, run_underlying Tryz.underlying198, Result.andThen_ok]
  go_simp

theorem ta_nil (w : World) : (Instr.typeAssert .nilIface 20 198 true).run Tryz.prog w = .ok (.tuple #[.int .i64 0, .bool false]) w := by
  simp only [Instr.typeAssert, Sem.run_bind, run_underlying Tryz.underlying198, Result.andThen_ok]
  go_simp

theorem scatch_idle (p : Addr) (w : World) :
    CallsD Tryz.prog 144 #[.pointer (some p)] .returning w fun e u' w' => e = .returned (.tuple #[]) ∧ u' = .returning ∧ w' = w := by
  have hta := ta_nil
  refine callsD_of_wpS Tryz.func144 rfl fun c₀ cs hu => ?_
  apply wpS_seq
  apply wpS_region
  simp [wpOpsS, go_sem, recoverD, hu, Tryz.ntmps144, Exit.thenS]
  apply wpS_of_wp
  go_wp2
  simp [bodyPostS, results, Tryz.results144]
  cases c₀
  simp_all

theorem scatch_no (p : Addr) (w : World) (n e : Int) (hc : w.cell? p = some (.int .i64 n)) (hz : w.frozen? p = false) :
    CallsD Tryz.prog 144 #[.pointer (some p)] (.panicking [{ v := .iface 198 (.int .i64 e), recovered := false }]) w fun x u' w' => x = .returned (.tuple #[]) ∧ u' = .panicking [{ v := .iface 198 (.int .i64 e), recovered := true }] ∧ w' = w.setCell p (.int .i64 e) := by
  have hta := ta_hit
  refine callsD_of_wpS Tryz.func144 rfl fun c₀ cs hu => ?_
  apply wpS_seq
  apply wpS_region
  simp [wpOpsS, go_sem, recoverD, hu, Tryz.ntmps144, Exit.thenS]
  apply wpS_of_wp
  go_wp2
  simp [bodyPostS, results, Tryz.results144]

set_option maxRecDepth 100000 in
theorem become_ok (b k : Nat) (c o c' o' : Int) (cap : Array Value) (w : World) (h : LObj w b c o) (hen : ∀ w1 a, (callFunc k a).run Tryz.prog w1 = .ok (.enter k a) w1) (Q : World → Prop)
    (F : List Nat) (hF : b ∉ F) (hFl : w.heap.size ∉ F) (hQ : ∀ S w1 w2, (∀ x ∈ S, x = b ∨ w.heap.size ≤ x) → Touch w1 w2 S → Q w1 → Q w2)
    (hw : ∀ w1, Touch w w1 [] → Calls Tryz.prog k (#[.agg #[.int .u64 c, .int .i64 o]] ++ cap) w1 fun e w' => e = .returned (.agg #[.int .u64 c', .int .i64 o']) ∧ Touch w1 w' F ∧ Q w') :
    Calls Tryz.prog 102 #[.pointer (some ⟨b, 0, none⟩), .func (.func k) #[] cap] w fun e w' => e = .returned (.int .i64 0) ∧ LObj w' b c' o' ∧ Touch w w' (b :: F) ∧ Q w' := by
  have hmf : ∀ (fn : Fn) (first cap : Array Value) (w : World), (Instr.makeFunc fn first cap).run Tryz.prog w = .ok (.func fn first cap) w := fun _ _ _ _ => rfl
  have h1 := h.touch ((Touch.refl w []).alloc (.cells #[.int .i64 0] 41)) (by simp)
  obtain ⟨c0, c1, f0, f1⟩ := h1.cells
  go_enter_defers Tryz.func102, Tryz.ntmps102
  go_wp2_with fail
  refine (sneed_yes _ _).mono ?_
  rintro e w1 ⟨rfl, rfl⟩
  go_wp2_with fail
  have hT0 : Touch w (w.alloc (.cells #[.int .i64 0] 41)) [] := (Touch.refl w []).alloc _
  refine (hw _ hT0).mono ?_
  rintro e w1 ⟨rfl, t1, q1⟩
  have hbl := lt_of_heap h.st
  have h2 := h1.touch t1 hF
  obtain ⟨d0, d1, g0, g1⟩ := h2.cells
  have d1' : (w1.setCell ⟨b, 0, none⟩ (.int .u64 c')).cell? ⟨b, 1, none⟩ = some (.int .i64 o) := by simp [World.cell?, World.setCell, Array.getElem?_modify, h2.st]
  have g1' : (w1.setCell ⟨b, 0, none⟩ (.int .u64 c')).frozen? ⟨b, 1, none⟩ = false := by simp [g1]
  have h3 := h2.set c' o'
  have t3 : Touch w ((w1.setCell ⟨b, 0, none⟩ (.int .u64 c')).setCell ⟨b, 1, none⟩ (.int .i64 o')) (b :: F) :=
    (((hT0.mono (R := b :: F) (by simp)).trans t1 (by intro x hx; exact .inl (List.mem_cons_of_mem _ hx))).setCell (.inl (by simp)) _).setCell (.inl (by simp)) _
  have hs1 := t1.size
  have hFw : w.heap.size ∉ F := hFl
  simp only [World.size_alloc] at hs1
  have cE := ((t1.cell (p := ⟨w.heap.size, 0, none⟩) (by simp) hFw).trans (by simp [go_sem] : _ = some (.int .i64 0)))
  have fE := ((t1.frozen (p := ⟨w.heap.size, 0, none⟩) (by simp) hFw).trans (by simp [go_sem] : _ = false))
  have hne : b ≠ w.heap.size := by omega
  have cE' : ((w1.setCell ⟨b, 0, none⟩ (.int .u64 c')).setCell ⟨b, 1, none⟩ (.int .i64 o')).cell? ⟨w.heap.size, 0, none⟩ = some (.int .i64 0) := by
    rw [World.cell?_setCell_other _ _ _ _ (by simp <;> omega), World.cell?_setCell_other _ _ _ _ (by simp <;> omega)]; exact cE
  have fE' : ((w1.setCell ⟨b, 0, none⟩ (.int .u64 c')).setCell ⟨b, 1, none⟩ (.int .i64 o')).frozen? ⟨w.heap.size, 0, none⟩ = false := by simp [fE]
  have q3 : Q ((w1.setCell ⟨b, 0, none⟩ (.int .u64 c')).setCell ⟨b, 1, none⟩ (.int .i64 o')) := hQ [b] w1 _ (by simp) (((Touch.refl w1 [b]).setCell (.inl (by simp)) _).setCell (.inl (by simp)) _) q1
  have H3 : Hid _ := h3
  have T3 : Hid _ := t3
  have Q3 : Hid _ := q3
  clear hw c0 c1 f0 f1 h1 h2 h3 t3 q3 q1 t1 cE fE
  go_wp2
  have c4 := World.cell?_setCell_same _ _ (.int .i64 0) cE'
  have h4 := H3.out.touch (((Touch.refl _ [w.heap.size]).setCell (p := ⟨w.heap.size, 0, none⟩) (.inl (by simp)) (.int .i64 0))) (by simp; omega)
  have t4 := T3.out.setCell (p := ⟨w.heap.size, 0, none⟩) (.inr (Nat.le_refl _)) (.int .i64 0)
  have q4 := hQ [w.heap.size] _ _ (by simp) ((Touch.refl _ [w.heap.size]).setCell (p := ⟨w.heap.size, 0, none⟩) (.inl (by simp)) (.int .i64 0)) Q3.out
  generalize ((w1.setCell ⟨b, 0, none⟩ (.int .u64 c')).setCell ⟨b, 1, none⟩ (.int .i64 o')).setCell ⟨w.heap.size, 0, none⟩ (.int .i64 0) = w4 at *
  refine leaves_cons (f := 144) (args := #[.pointer (some ⟨w.heap.size, 0, none⟩)]) (by simp) (by simp [go_sem]) ?_
  refine (scatch_idle ⟨w.heap.size, 0, none⟩ w4).mono ?_
  rintro e u' w'' ⟨rfl, rfl, rfl⟩
  simp [Leaves, settle, results, Tryz.results102, go_sem, c4]
  exact ⟨h4, t4, q4⟩

set_option maxRecDepth 100000 in
theorem become_no (b k : Nat) (c o e : Int) (cap : Array Value) (w : World) (h : LObj w b c o) (hen : ∀ w1 a, (callFunc k a).run Tryz.prog w1 = .ok (.enter k a) w1)
    (hw : ∀ w1, Touch w w1 [] → Calls Tryz.prog k (#[.agg #[.int .u64 c, .int .i64 o]] ++ cap) w1 (Refuses e w1)) :
    Calls Tryz.prog 102 #[.pointer (some ⟨b, 0, none⟩), .func (.func k) #[] cap] w fun x w' => x = .returned (.int .i64 e) ∧ Touch w w' [] := by
  have hmf : ∀ (fn : Fn) (first cap : Array Value) (w : World), (Instr.makeFunc fn first cap).run Tryz.prog w = .ok (.func fn first cap) w := fun _ _ _ _ => rfl
  have h1 := h.touch ((Touch.refl w []).alloc (.cells #[.int .i64 0] 41)) (by simp)
  obtain ⟨c0, c1, f0, f1⟩ := h1.cells
  go_enter_defers Tryz.func102, Tryz.ntmps102
  go_wp2_with fail
  refine (sneed_yes _ _).mono ?_
  rintro e w1 ⟨rfl, rfl⟩
  go_wp2_with fail
  have hT0 : Touch w (w.alloc (.cells #[.int .i64 0] 41)) [] := (Touch.refl w []).alloc _
  refine (hw _ hT0).mono ?_
  rintro x w1 ⟨rfl, t1⟩
  have cE := ((t1.cell (p := ⟨w.heap.size, 0, none⟩) (by simp) (by simp)).trans (by simp [go_sem] : _ = some (.int .i64 0)))
  have fE := ((t1.frozen (p := ⟨w.heap.size, 0, none⟩) (by simp) (by simp)).trans (by simp [go_sem] : _ = false))
  have t2 := (hT0.trans t1 (by simp)).setCell (p := ⟨w.heap.size, 0, none⟩) (.inr (Nat.le_refl _)) (.int .i64 e)
  have T2 : Hid _ := t2
  clear hw c0 c1 f0 f1 h1 t1 t2
  refine leaves_cons (f := 144) (args := #[.pointer (some ⟨w.heap.size, 0, none⟩)]) (by simp) (by simp [go_sem]) ?_
  refine (scatch_no ⟨w.heap.size, 0, none⟩ w1 0 e cE fE).mono ?_
  rintro x u' w'' ⟨rfl, rfl, rfl⟩
  have c2 := World.cell?_setCell_same _ _ (.int .i64 e) cE
  generalize w1.setCell ⟨w.heap.size, 0, none⟩ (.int .i64 e) = w3 at *
  simp [Leaves, settle, results, Tryz.results102, go_sem, c2]
  exact T2.out

theorem become_nil (k : Nat) (cap : Array Value) (w : World) :
    Calls Tryz.prog 102 #[.pointer none, .func (.func k) #[] cap] w fun x w' => x = .returned (.int .i64 1) ∧ Touch w w' [] := by
  have hmf : ∀ (fn : Fn) (first cap : Array Value) (w : World), (Instr.makeFunc fn first cap).run Tryz.prog w = .ok (.func fn first cap) w := fun _ _ _ _ => rfl
  go_enter_defers Tryz.func102, Tryz.ntmps102
  go_wp2_with fail
  refine (sneed_no _ _).mono ?_
  rintro x w1 ⟨rfl, t1⟩
  have hT0 : Touch w (w.alloc (.cells #[.int .i64 0] 41)) [] := (Touch.refl w []).alloc _
  have cE := ((t1.cell (p := ⟨w.heap.size, 0, none⟩) (by simp) (by simp)).trans (by simp [go_sem] : _ = some (.int .i64 0)))
  have fE := ((t1.frozen (p := ⟨w.heap.size, 0, none⟩) (by simp) (by simp)).trans (by simp [go_sem] : _ = false))
  have t2 := (hT0.trans t1 (by simp)).setCell (p := ⟨w.heap.size, 0, none⟩) (.inr (Nat.le_refl _)) (.int .i64 1)
  have T2 : Hid _ := t2
  clear t1 t2
  refine leaves_cons (f := 144) (args := #[.pointer (some ⟨w.heap.size, 0, none⟩)]) (by simp) (by simp [go_sem]) ?_
  refine (scatch_no ⟨w.heap.size, 0, none⟩ w1 0 1 cE fE).mono ?_
  rintro x u' w'' ⟨rfl, rfl, rfl⟩
  have c2 := World.cell?_setCell_same _ _ (.int .i64 1) cE
  generalize w1.setCell ⟨w.heap.size, 0, none⟩ (.int .i64 1) = w3 at *
  simp [Leaves, settle, results, Tryz.results102, go_sem, c2]
  exact T2.out

end Go.Proofs.YtlfnmnchhhlhiabGreat.Sq
