/-
  package spec: A WALK AS IT LIES; need, isPlace, burn, target, hangsOnState, truth BY THEIR CONTRACTS.
-/
import Derived.Test.YtlndbligbpfdpaaCdRight
import Derived.Test.YtlndbligbpfdpaaRowApp
import Derived.Deep.QuietTactic
import Derived.BigQuiet
namespace Go.Proofs.Ytlndbligbpfdpaa
set_option linter.unusedVariables false
set_option linter.unusedSimpArgs false
open Go.RowKit
attribute [local go_sem] Oper.semAt_some

/-- How far a thread is: its place, the stack, four locals, what it put out; the fuel that is left. -/
structure WD where
  pc : Int
  st : List Int
  l0 : Int
  l1 : Int
  l2 : Int
  l3 : Int
  out : List Int
  fuel : Int

/-- A block that begins with a walk: vs, vo, vp: the stack, what was put out, the program, as slices; tl: what stands behind. -/
structure WObj (w : World) (b : Nat) (T : TypeId) (tl : List Value) (vs vo vp : Value) (D : WD) : Prop where
  st : w.heap[b]? = some (.cells ⟨.int .i64 D.pc :: vs :: .int .u64 D.l0 :: .int .u64 D.l1 :: .int .u64 D.l2 :: .int .u64 D.l3 :: vo :: vp :: .int .i64 D.fuel :: tl⟩ T (0, 0))
theorem WObj.touch {w w' : World} {b : Nat} {T : TypeId} {tl : List Value} {vs vo vp : Value} {D : WD} {S : List Nat} (h : WObj w b T tl vs vo vp D) (t : Touch w w' S) (hS : b ∉ S) : WObj w' b T tl vs vo vp D := ⟨(t.block b (lt_of_heap h.st) hS).trans h.st⟩
theorem WObj.lt {w : World} {b : Nat} {T : TypeId} {tl : List Value} {vs vo vp : Value} {D : WD} (h : WObj w b T tl vs vo vp D) : b < w.heap.size := lt_of_heap h.st
theorem WObj.fr {w : World} {b : Nat} {T : TypeId} {tl : List Value} {vs vo vp : Value} {D : WD} (h : WObj w b T tl vs vo vp D) (j : Nat) : w.frozen? ⟨b, j, none⟩ = false := by unfold World.frozen?; rw [h.st]; simp
/-- What the cells of a walk hold. -/
structure WCells (w : World) (b : Nat) (vs vo vp : Value) (D : WD) : Prop where
  c0 : w.cell? ⟨b, 0, none⟩ = some (.int .i64 D.pc)
  c1 : w.cell? ⟨b, 1, none⟩ = some vs
  c2 : w.cell? ⟨b, 2, none⟩ = some (.int .u64 D.l0)
  c3 : w.cell? ⟨b, 3, none⟩ = some (.int .u64 D.l1)
  c4 : w.cell? ⟨b, 4, none⟩ = some (.int .u64 D.l2)
  c5 : w.cell? ⟨b, 5, none⟩ = some (.int .u64 D.l3)
  c6 : w.cell? ⟨b, 6, none⟩ = some vo
  c7 : w.cell? ⟨b, 7, none⟩ = some vp
  c8 : w.cell? ⟨b, 8, none⟩ = some (.int .i64 D.fuel)
theorem WObj.cells {w : World} {b : Nat} {T : TypeId} {tl : List Value} {vs vo vp : Value} {D : WD} (h : WObj w b T tl vs vo vp D) : WCells w b vs vo vp D := by
  constructor <;> (unfold World.cell?; rw [h.st]; rfl)
theorem WObj.set0 {w : World} {b : Nat} {T : TypeId} {tl : List Value} {vs vo vp : Value} {D : WD} (h : WObj w b T tl vs vo vp D) (x : Int) : WObj (w.setCell ⟨b, 0, none⟩ (.int .i64 x)) b T tl vs vo vp { D with pc := x } := ⟨by rw [heap_setCell_same _ _ _ _ _ _ h.st]; simp⟩
theorem WObj.set1 {w : World} {b : Nat} {T : TypeId} {tl : List Value} {vs vo vp : Value} {D : WD} (h : WObj w b T tl vs vo vp D) (v : Value) (l : List Int) : WObj (w.setCell ⟨b, 1, none⟩ v) b T tl v vo vp { D with st := l } := ⟨by rw [heap_setCell_same _ _ _ _ _ _ h.st]; simp⟩
theorem WObj.set6 {w : World} {b : Nat} {T : TypeId} {tl : List Value} {vs vo vp : Value} {D : WD} (h : WObj w b T tl vs vo vp D) (v : Value) (l : List Int) : WObj (w.setCell ⟨b, 6, none⟩ v) b T tl vs v vp { D with out := l } := ⟨by rw [heap_setCell_same _ _ _ _ _ _ h.st]; simp⟩
theorem WObj.set8 {w : World} {b : Nat} {T : TypeId} {tl : List Value} {vs vo vp : Value} {D : WD} (h : WObj w b T tl vs vo vp D) (x : Int) : WObj (w.setCell ⟨b, 8, none⟩ (.int .i64 x)) b T tl vs vo vp { D with fuel := x } := ⟨by rw [heap_setCell_same _ _ _ _ _ _ h.st]; simp⟩

/-- It gives up, by what can't go on ever: why. -/
def StuckP (er : Int) (w : World) (e : Ending) (w' : World) : Prop := e = .panicked [{ v := .iface 78 (.agg #[.int .i64 er]), recovered := false }] ∧ Touch w w' []

theorem sneed_ok (er : Int) (w : World) : Calls Try.prog 41 #[.bool true, .int .i64 er] w fun e w' => e = .returned (.tuple #[]) ∧ w = w' := by
  go_enter Try.func41, Try.ntmps41
  go_wp2
  go_end0
  exact ⟨rfl, rfl⟩
theorem sneed_no (er : Int) (w : World) : Calls Try.prog 41 #[.bool false, .int .i64 er] w (StuckP er w) := by
  go_enter Try.func41, Try.ntmps41
  go_wp2
  exact ⟨rfl, rfl, Touch.refl _ _⟩

/-- Is there an instruction at its place? -/
def placeP (pc : Int) (n : Nat) : Bool := decide (0 ≤ pc) && decide (pc < (n : Int))
set_option maxRecDepth 100000 in
set_option maxHeartbeats 1000000 in
theorem isPlace_any {w : World} {b : Nat} {T : TypeId} {tl : List Value} {vs vo : Value} {ao : Option Addr} {n cap : Nat} {D : WD} (h : WObj w b T tl vs vo (.slice ao n cap) D) :
    Calls Try.prog 65 #[.pointer (some ⟨b, 0, none⟩)] w fun e w' => e = .returned (.bool (placeP D.pc n)) ∧ ∃ q, w' = w.drewN q := by
  have c := h.cells
  have c0 := c.c0
  have c7 := c.c7
  unfold placeP
  generalize D.pc = pc at *
  clear h c
  by_cases h0 : 0 ≤ pc
  · have h0' : decide (0 ≤ pc) = true := decide_eq_true h0
    rw [h0', Bool.true_and]
    go_enter Try.func65, Try.ntmps65
    go_wp2_with fail
    go_quiet (fail)
    go_wp2
    go_ret
    exact ⟨rfl, _, rfl⟩
  · have h0' : decide (0 ≤ pc) = false := decide_eq_false h0
    rw [h0', Bool.false_and]
    go_enter Try.func65, Try.ntmps65
    go_wp2_with fail
    go_quiet (fail)
    go_wp2
    go_ret
    exact ⟨rfl, _, rfl⟩

/-- The fuel of one instruction. -/
theorem burn_ok {w : World} {b : Nat} {T : TypeId} {tl : List Value} {vs vo vp : Value} {D : WD} (h : WObj w b T tl vs vo vp D) (hf : 0 < D.fuel) (hm : D.fuel ≤ 300) :
    Calls Try.prog 61 #[.pointer (some ⟨b, 0, none⟩)] w fun e w' => e = .returned (.tuple #[]) ∧ WObj w' b T tl vs vo vp { D with fuel := D.fuel - 1 } ∧ Touch w w' [b] := by
  have c := h.cells
  have c8 := c.c8
  have f8 := h.fr 8
  have HS : Hid _ := h.set8 (D.fuel - 1)
  have HT : Hid (Touch w (w.setCell ⟨b, 8, none⟩ (.int .i64 (D.fuel - 1))) [b]) := (Touch.refl w [b]).setCell (.inl (by simp)) _
  have hn : HidC _ _ _ _ _ := ⟨sneed_ok 11 w⟩
  have hwr : IntKind.i64.wrap (D.fuel - 1) = D.fuel - 1 := by rw [IntKind.wrap_i64]; omega
  generalize D.fuel = fu at *
  have hd : decide (0 < fu) = true := decide_eq_true hf
  clear h c
  go_enter Try.func61, Try.ntmps61
  go_wp2_with fail
  refine hn.out.mono ?_
  rintro e _ ⟨rfl, rfl⟩
  clear hn
  go_wp2
  go_end0
  exact ⟨rfl, HS.out, HT.out⟩
theorem burn_no {w : World} {b : Nat} {T : TypeId} {tl : List Value} {vs vo vp : Value} {D : WD} (h : WObj w b T tl vs vo vp D) (hf : ¬ 0 < D.fuel) :
    Calls Try.prog 61 #[.pointer (some ⟨b, 0, none⟩)] w (StuckP 11 w) := by
  have c := h.cells
  have c8 := c.c8
  have hn : HidC _ _ _ _ _ := ⟨sneed_no 11 w⟩
  generalize D.fuel = fu at *
  have hd : decide (0 < fu) = false := decide_eq_false hf
  clear h c
  go_enter Try.func61, Try.ntmps61
  go_wp2_with fail
  refine hn.out.mono ?_
  rintro e w1 ⟨rfl, t1⟩
  exact ⟨rfl, rfl, t1⟩

theorem target_ok {w : World} {b : Nat} {T : TypeId} {tl : List Value} {vs vo : Value} {ao : Option Addr} {n cap : Nat} {D : WD} (h : WObj w b T tl vs vo (.slice ao n cap) D) (a : Int) (ha : a ≤ n) :
    Calls Try.prog 44 #[.pointer (some ⟨b, 0, none⟩), .int .i64 a] w fun e w' => e = .returned (.int .i64 a) ∧ w = w' := by
  have c := h.cells
  have c7 := c.c7
  have hn : HidC _ _ _ _ _ := ⟨sneed_ok 2 w⟩
  have hd : decide (a ≤ (n : Int)) = true := decide_eq_true ha
  clear h c
  go_enter Try.func44, Try.ntmps44
  go_wp2_with fail
  refine hn.out.mono ?_
  rintro e _ ⟨rfl, rfl⟩
  clear hn
  go_wp2
  go_ret
  exact ⟨rfl, rfl⟩
theorem target_no {w : World} {b : Nat} {T : TypeId} {tl : List Value} {vs vo : Value} {ao : Option Addr} {n cap : Nat} {D : WD} (h : WObj w b T tl vs vo (.slice ao n cap) D) (a : Int) (ha : ¬ a ≤ n) :
    Calls Try.prog 44 #[.pointer (some ⟨b, 0, none⟩), .int .i64 a] w (StuckP 2 w) := by
  have c := h.cells
  have c7 := c.c7
  have hn : HidC _ _ _ _ _ := ⟨sneed_no 2 w⟩
  have hd : decide (a ≤ (n : Int)) = false := decide_eq_false ha
  clear h c
  go_enter Try.func44, Try.ntmps44
  go_wp2_with fail
  refine hn.out.mono ?_
  rintro e w1 ⟨rfl, t1⟩
  exact ⟨rfl, rfl, t1⟩

/-- Does an operation hang on the State alone? -/
def plainO (o : Int) : Bool := !decide (o = 4 ∨ o = 5 ∨ o = 6 ∨ o = 7 ∨ o = 26 ∨ o = 28 ∨ o = 21 ∨ o = 22 ∨ o = 23 ∨ o = 24 ∨ o = 25)
set_option maxRecDepth 100000 in
theorem hangs_any (o : Int) (w : World) : Calls Try.prog 42 #[.int .u8 o] w fun e w' => e = .returned (.bool (plainO o)) ∧ w = w' := by
  rcases (show o = 4 ∨ o = 5 ∨ o = 6 ∨ o = 7 ∨ o = 26 ∨ o = 28 ∨ o = 21 ∨ o = 22 ∨ o = 23 ∨ o = 24 ∨ o = 25 ∨ (o ≠ 4 ∧ o ≠ 5 ∧ o ≠ 6 ∧ o ≠ 7 ∧ o ≠ 26 ∧ o ≠ 28 ∧ o ≠ 21 ∧ o ≠ 22 ∧ o ≠ 23 ∧ o ≠ 24 ∧ o ≠ 25) by omega) with rfl | rfl | rfl | rfl | rfl | rfl | rfl | rfl | rfl | rfl | rfl | ⟨h4, h5, h6, h7, h26, h28, h21, h22, h23, h24, h25⟩
  all_goals try (
    go_enter Try.func42, Try.ntmps42
    go_wp2
    go_ret
    exact ⟨rfl, rfl⟩)
  have e : plainO o = true := by simp [plainO, *]
  rw [e]
  go_enter Try.func42, Try.ntmps42
  go_wp2
  go_ret
  exact ⟨rfl, rfl⟩

/-- One, or 0. -/
def oneV (x : Bool) : Int := if x then 4607182418800017408 else 0
theorem struth_any (x : Bool) (w : World) : Calls Try.prog 70 #[.bool x] w fun e w' => e = .returned (.int .u64 (oneV x)) ∧ w = w' := by
  cases x
  · show Calls _ _ _ _ fun e w' => e = .returned (.int .u64 0) ∧ w = w'
    go_enter Try.func70, Try.ntmps70
    go_wp2
    go_ret
    exact ⟨rfl, rfl⟩
  · show Calls _ _ _ _ fun e w' => e = .returned (.int .u64 4607182418800017408) ∧ w = w'
    go_enter Try.func70, Try.ntmps70
    go_wp2
    go_ret
    exact ⟨rfl, rfl⟩

end Go.Proofs.Ytlndbligbpfdpaa
