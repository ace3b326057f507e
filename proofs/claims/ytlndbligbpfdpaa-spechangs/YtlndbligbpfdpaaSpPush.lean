/-
  package spec: pushed BY ITS CONTRACT.
-/
import Derived.Test.YtlndbligbpfdpaaSpReck
import Derived.Test.YtlndbligbpfdpaaAllB
import Derived.Deep.RegionHeld3
namespace Go.Proofs.Ytlndbligbpfdpaa
set_option linter.unusedVariables false
set_option linter.unusedSimpArgs false
open Go.RowKit
attribute [local go_sem] Oper.semAt_some

/-- A local. -/
def WD.loc (D : WD) (k : Int) : Int := if k = 0 then D.l0 else if k = 1 then D.l1 else if k = 2 then D.l2 else D.l3
/-- The values that an instruction pushes for those that it pops. -/
def pushW (D : WD) (i : InsD) (pp : List Int) : List Int :=
  if i.op = 1 then [i.val] else if i.op = 2 then [D.loc i.arg] else if i.op = 16 then [pp.getD 0 0, pp.getD 0 0] else if i.op = 18 then [pp.getD 1 0, pp.getD 0 0] else if i.op = 12 then [(negV (ofB (pp.getD 0 0).toNat) : Int)] else if i.op = 15 then [oneV (!truthB (classB (ofB (pp.getD 0 0).toNat)))] else if i.op = 8 ∨ i.op = 9 ∨ i.op = 10 ∨ i.op = 11 ∨ i.op = 13 ∨ i.op = 14 then [reckV i.op (pp.getD 0 0) (pp.getD 1 0)] else []
/-- New values. -/
def PushP (w : World) (l : List Int) (e : Ending) (w' : World) : Prop := ∃ v, e = .returned v ∧ valOwn w' w.heap.size v l ∧ Touch w w' []

theorem own_one (w : World) (B : Nat) (hB : B ≤ w.heap.size) (x : Int) : valOwn (w.alloc (.cells #[.int .u64 x] 25)) B (.slice (some ⟨w.heap.size, 0, none⟩) 1 1) [x] :=
  ⟨by simp, .inr ⟨w.heap.size, 1, #[.int .u64 x], rfl, hB, heap_alloc_new w _, by simp, by decide, rfl, rfl⟩⟩
theorem own_two (w : World) (B : Nat) (hB : B ≤ w.heap.size) (x y : Int) : valOwn (w.alloc (.cells #[.int .u64 x, .int .u64 y] 25)) B (.slice (some ⟨w.heap.size, 0, none⟩) 2 2) [x, y] :=
  ⟨by simp, .inr ⟨w.heap.size, 2, #[.int .u64 x, .int .u64 y], rfl, hB, heap_alloc_new w _, by simp, by decide, rfl, rfl⟩⟩

set_option maxRecDepth 100000 in
set_option maxHeartbeats 1000000 in
theorem pushed_push {w : World} {b : Nat} (a v : Int) (vpp : Value) : Calls Try.prog 47 #[.pointer (some ⟨b, 0, none⟩), .agg #[.int .u8 1, .int .i64 a, .int .u64 v], vpp] w (PushP w [v]) := by
  have HB : Hid _ := (BoxI.new w 1 a v)
  have bx := HB.out.cells
  obtain ⟨b0, b1, b2⟩ := bx
  have HT : Hid (Touch w (w.alloc (.cells #[.int .u8 1, .int .i64 a, .int .u64 v] 48)) []) := (Touch.refl w []).alloc _
  have ho := own_one (w.alloc (.cells #[.int .u8 1, .int .i64 a, .int .u64 v] 48)) w.heap.size (by simp) v
  rw [World.size_alloc] at ho
  have HO : Hid _ := ho
  clear ho
  have HT2 : Hid _ := HT.out.alloc (.cells #[.int .u64 v] 25)
  go_enter Try.func47, Try.ntmps47
  go_wp2
  go_ret
  exact ⟨_, rfl, HO.out, HT2.out⟩

set_option maxRecDepth 100000 in
set_option maxHeartbeats 1000000 in
theorem pushed_none {w : World} {b : Nat} (o a v : Int) (vpp : Value) (h : o ≠ 1 ∧ o ≠ 2 ∧ o ≠ 16 ∧ o ≠ 18 ∧ o ≠ 12 ∧ o ≠ 15 ∧ o ≠ 8 ∧ o ≠ 9 ∧ o ≠ 10 ∧ o ≠ 11 ∧ o ≠ 13 ∧ o ≠ 14) : Calls Try.prog 47 #[.pointer (some ⟨b, 0, none⟩), .agg #[.int .u8 o, .int .i64 a, .int .u64 v], vpp] w (PushP w []) := by
  obtain ⟨h1, h2, h16, h18, h12, h15, h8, h9, h10, h11, h13, h14⟩ := h
  have HB : Hid _ := (BoxI.new w o a v)
  have bx := HB.out.cells
  obtain ⟨b0, b1, b2⟩ := bx
  have HT : Hid (Touch w (w.alloc (.cells #[.int .u8 o, .int .i64 a, .int .u64 v] 48)) []) := (Touch.refl w []).alloc _
  go_enter Try.func47, Try.ntmps47
  go_wp2
  go_ret
  exact ⟨_, rfl, World.ownsRow_nil _ _ _ _, HT.out⟩

set_option maxRecDepth 100000 in
set_option maxHeartbeats 1000000 in
theorem pushed_dup {w : World} {b : Nat} (a v : Int) {g off c : Nat} (x : Int) (hx : w.cell? ⟨g, off, none⟩ = some (.int .u64 x)) : Calls Try.prog 47 #[.pointer (some ⟨b, 0, none⟩), .agg #[.int .u8 16, .int .i64 a, .int .u64 v], .slice (some ⟨g, off, none⟩) 1 c] w (PushP w [x, x]) := by
  have HB : Hid _ := (BoxI.new w 16 a v)
  have bx := HB.out.cells
  obtain ⟨b0, b1, b2⟩ := bx
  have hg := World.block_lt_of_cell? w _ hx
  have HT : Hid (Touch w (w.alloc (.cells #[.int .u8 16, .int .i64 a, .int .u64 v] 48)) []) := (Touch.refl w []).alloc _
  have hx1 := (HT.out.cell (p := ⟨g, off, none⟩) hg (by simp)).trans hx
  have HO : Hid _ := fun W (hW : Touch w W []) => own_two W w.heap.size hW.size x x
  generalize hQ : w.alloc (.cells #[.int .u8 16, .int .i64 a, .int .u64 v] 48) = Q at *
  have HQ : Hid _ := hQ
  clear hQ
  go_enter Try.func47, Try.ntmps47
  go_wp2_with fail
  rw [HQ.out]
  have HC : Hid (∀ W, Touch w W [] → W.cell? ⟨g, off, none⟩ = some (.int .u64 x)) := fun W t => (t.cell (p := ⟨g, off, none⟩) hg (by simp)).trans hx
  have hd : Touch w Q.drew [] := HT.out.drew
  have HOD : Hid _ := HO.out _ hd
  have HTD : Hid _ := hd.alloc (.cells #[.int .u64 x, .int .u64 x] 25)
  clear hx hx1
  go_region_held3 (fun w' => w'.cell? ⟨g, off, none⟩ = some (.int .u64 x)) ((first | exact HC.out _ hd | exact HC.out _ (hd.alloc _))) (fail)
  go_wp2
  go_ret
  exact ⟨_, rfl, HOD.out, HTD.out⟩

set_option maxRecDepth 100000 in
set_option maxHeartbeats 1000000 in
theorem pushed_swap {w : World} {b : Nat} (a v : Int) {g off c : Nat} (x y : Int) (hx : w.cell? ⟨g, off, none⟩ = some (.int .u64 x)) (hy : w.cell? ⟨g, off + 1, none⟩ = some (.int .u64 y)) : Calls Try.prog 47 #[.pointer (some ⟨b, 0, none⟩), .agg #[.int .u8 18, .int .i64 a, .int .u64 v], .slice (some ⟨g, off, none⟩) 2 c] w (PushP w [y, x]) := by
  have HB : Hid _ := (BoxI.new w 18 a v)
  have bx := HB.out.cells
  obtain ⟨b0, b1, b2⟩ := bx
  have hg := World.block_lt_of_cell? w _ hx
  have HT : Hid (Touch w (w.alloc (.cells #[.int .u8 18, .int .i64 a, .int .u64 v] 48)) []) := (Touch.refl w []).alloc _
  have hx1 := (HT.out.cell (p := ⟨g, off, none⟩) hg (by simp)).trans hx
  have HO : Hid _ := fun W (hW : Touch w W []) => own_two W w.heap.size hW.size y x
  generalize hQ : w.alloc (.cells #[.int .u8 18, .int .i64 a, .int .u64 v] 48) = Q at *
  have HQ : Hid _ := hQ
  clear hQ
  go_enter Try.func47, Try.ntmps47
  go_wp2_with fail
  rw [HQ.out]
  have HC : Hid (∀ W, Touch w W [] → W.cell? ⟨g, off, none⟩ = some (.int .u64 x) ∧ W.cell? ⟨g, off + 1, none⟩ = some (.int .u64 y)) := fun W t => ⟨(t.cell (p := ⟨g, off, none⟩) hg (by simp)).trans hx, (t.cell (p := ⟨g, off + 1, none⟩) hg (by simp)).trans hy⟩
  have hd : Touch w Q.drew [] := HT.out.drew
  have HOD : Hid _ := HO.out _ hd
  have HTD : Hid _ := hd.alloc (.cells #[.int .u64 y, .int .u64 x] 25)
  clear hx hx1 hy
  go_region_held3 (fun w' => w'.cell? ⟨g, off, none⟩ = some (.int .u64 x) ∧ w'.cell? ⟨g, off + 1, none⟩ = some (.int .u64 y)) ((first | exact HC.out _ hd | exact HC.out _ (hd.alloc _))) (fail)
  go_wp2
  go_ret
  exact ⟨_, rfl, HOD.out, HTD.out⟩

set_option maxRecDepth 100000 in
set_option maxHeartbeats 1000000 in
theorem pushed_neg {w : World} {b : Nat} (a v : Int) {g off c : Nat} (x : Int) (hxw : Wf64 x) (hx : w.cell? ⟨g, off, none⟩ = some (.int .u64 x)) : Calls Try.prog 47 #[.pointer (some ⟨b, 0, none⟩), .agg #[.int .u8 12, .int .i64 a, .int .u64 v], .slice (some ⟨g, off, none⟩) 1 c] w (PushP w [(negV (ofB x.toNat) : Int)]) := by
  have HB : Hid _ := (BoxI.new w 12 a v)
  have bx := HB.out.cells
  obtain ⟨b0, b1, b2⟩ := bx
  have hg := World.block_lt_of_cell? w _ hx
  have HT : Hid (Touch w (w.alloc (.cells #[.int .u8 12, .int .i64 a, .int .u64 v] 48)) []) := (Touch.refl w []).alloc _
  have hx1 := (HT.out.cell (p := ⟨g, off, none⟩) hg (by simp)).trans hx
  have hng : HidC _ _ _ _ _ := ⟨neg_any x hxw (w.alloc (.cells #[.int .u8 12, .int .i64 a, .int .u64 v] 48))⟩
  have ho := own_one (w.alloc (.cells #[.int .u8 12, .int .i64 a, .int .u64 v] 48)) w.heap.size (by simp) (negV (ofB x.toNat) : Int)
  rw [World.size_alloc] at ho
  have HO : Hid _ := ho
  have HT2 : Hid _ := HT.out.alloc (.cells #[.int .u64 (negV (ofB x.toNat) : Int)] 25)
  generalize (negV (ofB x.toNat)) = y at *
  clear ho hx
  go_enter Try.func47, Try.ntmps47
  go_wp2_with fail
  refine hng.out.mono ?_
  rintro e _ ⟨rfl, rfl⟩
  clear hng
  go_wp2
  go_ret
  exact ⟨_, rfl, HO.out, HT2.out⟩

set_option maxRecDepth 100000 in
set_option maxHeartbeats 1000000 in
theorem pushed_not {w : World} {b : Nat} (a v : Int) {g off c : Nat} (x : Int) (hx : w.cell? ⟨g, off, none⟩ = some (.int .u64 x)) : Calls Try.prog 47 #[.pointer (some ⟨b, 0, none⟩), .agg #[.int .u8 15, .int .i64 a, .int .u64 v], .slice (some ⟨g, off, none⟩) 1 c] w (PushP w [oneV (!truthB (classB (ofB x.toNat)))]) := by
  have HB : Hid _ := (BoxI.new w 15 a v)
  have bx := HB.out.cells
  obtain ⟨b0, b1, b2⟩ := bx
  have hg := World.block_lt_of_cell? w _ hx
  have HT : Hid (Touch w (w.alloc (.cells #[.int .u8 15, .int .i64 a, .int .u64 v] 48)) []) := (Touch.refl w []).alloc _
  have hx1 := (HT.out.cell (p := ⟨g, off, none⟩) hg (by simp)).trans hx
  have htr : HidC _ _ _ _ _ := ⟨truth_any x (w.alloc (.cells #[.int .u8 15, .int .i64 a, .int .u64 v] 48))⟩
  generalize truthB (classB (ofB x.toNat)) = y at *
  have hon : HidC _ _ _ _ _ := ⟨struth_any (!y) (w.alloc (.cells #[.int .u8 15, .int .i64 a, .int .u64 v] 48))⟩
  have ho := own_one (w.alloc (.cells #[.int .u8 15, .int .i64 a, .int .u64 v] 48)) w.heap.size (by simp) (oneV (!y))
  rw [World.size_alloc] at ho
  have HO : Hid _ := ho
  have HT2 : Hid _ := HT.out.alloc (.cells #[.int .u64 (oneV (!y))] 25)
  generalize hz : oneV (!y) = z at *
  clear ho hx hz
  go_enter Try.func47, Try.ntmps47
  go_wp2_with fail
  refine htr.out.mono ?_
  rintro e _ ⟨rfl, rfl⟩
  clear htr
  go_wp2_with fail
  refine hon.out.mono ?_
  rintro e _ ⟨rfl, rfl⟩
  clear hon
  go_wp2
  go_ret
  exact ⟨_, rfl, HO.out, HT2.out⟩

set_option maxRecDepth 100000 in
set_option maxHeartbeats 1000000 in
theorem pushed_local {w : World} {b : Nat} (k : Nat) (hk : k < 4) (v x : Int) (vpp : Value) (hx : w.cell? ⟨b, 2 + k, none⟩ = some (.int .u64 x)) : Calls Try.prog 47 #[.pointer (some ⟨b, 0, none⟩), .agg #[.int .u8 2, .int .i64 (k : Int), .int .u64 v], vpp] w (PushP w [x]) := by
  have HB : Hid (∀ W, Touch (w.alloc (.cells #[.int .u8 2, .int .i64 (k : Int), .int .u64 v] 48)) W [] → BoxI W w.heap.size 2 k v) := fun W t => (BoxI.new w 2 k v).touch t (by simp)
  have hb := World.block_lt_of_cell? w _ hx
  have HT : Hid (Touch w (w.alloc (.cells #[.int .u8 2, .int .i64 (k : Int), .int .u64 v] 48)) []) := (Touch.refl w []).alloc _
  have HO : Hid _ := fun W (hW : Touch w W []) => own_one W w.heap.size hW.size x
  have bx := (HB.out _ (Touch.refl _ _)).cells
  obtain ⟨b0, b1, b2⟩ := bx
  generalize hQ : w.alloc (.cells #[.int .u8 2, .int .i64 (k : Int), .int .u64 v] 48) = Q at *
  have HQ : Hid _ := hQ
  clear hQ
  have hk4 : (k : Int) < 4 := by omega
  have hk0 : (0 : Int) ≤ k := by omega
  go_enter Try.func47, Try.ntmps47
  go_wp2_with fail
  rw [HQ.out]
  have HC : Hid (∀ W, Touch Q W [] → W.cell? ⟨b, 2 + k, none⟩ = some (.int .u64 x) ∧ W.cell? ⟨w.heap.size, 1, none⟩ = some (.int .i64 (k : Int))) := fun W t => ⟨((HT.out.trans t (by simp)).cell (p := ⟨b, 2 + k, none⟩) hb (by simp)).trans hx, (HB.out W t).cells.2.1⟩
  have hd : Touch Q Q.drew [] := (Touch.refl Q []).drew
  have hdw : Touch w Q.drew [] := HT.out.drew
  have HOD : Hid _ := HO.out _ hdw
  have HTD : Hid _ := hdw.alloc (.cells #[.int .u64 x] 25)
  clear hx b0 b1 b2
  go_region_held3 (fun w' => w'.cell? ⟨b, 2 + k, none⟩ = some (.int .u64 x) ∧ w'.cell? ⟨w.heap.size, 1, none⟩ = some (.int .i64 (k : Int))) ((first | exact HC.out _ hd | exact HC.out _ (hd.alloc _))) (fail)
  go_wp2
  go_ret
  exact ⟨_, rfl, HOD.out, HTD.out⟩

set_option maxRecDepth 100000 in
set_option maxHeartbeats 2000000 in
theorem pushed_reck {w : World} {b : Nat} (o a v : Int) (ho : o = 8 ∨ o = 9 ∨ o = 10 ∨ o = 11 ∨ o = 13 ∨ o = 14) {g off c : Nat} (x y : Int) (hx : w.cell? ⟨g, off, none⟩ = some (.int .u64 x)) (hy : w.cell? ⟨g, off + 1, none⟩ = some (.int .u64 y)) : Calls Try.prog 47 #[.pointer (some ⟨b, 0, none⟩), .agg #[.int .u8 o, .int .i64 a, .int .u64 v], .slice (some ⟨g, off, none⟩) 2 c] w (PushP w [reckV o x y]) := by
  have HB : Hid (∀ W, Touch (w.alloc (.cells #[.int .u8 o, .int .i64 a, .int .u64 v] 48)) W [] → BoxI W w.heap.size o a v) := fun W t => (BoxI.new w o a v).touch t (by simp)
  have hg := World.block_lt_of_cell? w _ hx
  have HT : Hid (Touch w (w.alloc (.cells #[.int .u8 o, .int .i64 a, .int .u64 v] 48)) []) := (Touch.refl w []).alloc _
  have HO : Hid _ := fun W (hW : Touch w W []) => own_one W w.heap.size hW.size (reckV o x y)
  have HRE : Hid (∀ W, HidC Try.prog 71 #[.int .u8 o, .int .u64 x, .int .u64 y] W fun e w' => e = .returned (.int .u64 (reckV o x y)) ∧ Touch W w' []) := fun W => ⟨reckoned_any o x y W⟩
  have HC : Hid (∀ W, Touch (w.alloc (.cells #[.int .u8 o, .int .i64 a, .int .u64 v] 48)) W [] → (W.cell? ⟨g, off, none⟩ = some (.int .u64 x) ∧ W.cell? ⟨g, off + 1, none⟩ = some (.int .u64 y)) ∧ W.cell? ⟨w.heap.size, 0, none⟩ = some (.int .u8 o)) := fun W t => ⟨⟨((HT.out.trans t (by simp)).cell (p := ⟨g, off, none⟩) hg (by simp)).trans hx, ((HT.out.trans t (by simp)).cell (p := ⟨g, off + 1, none⟩) hg (by simp)).trans hy⟩, (HB.out W t).cells.1⟩
  have bx := (HB.out _ (Touch.refl _ _)).cells
  obtain ⟨b0, b1, b2⟩ := bx
  generalize hQ : w.alloc (.cells #[.int .u8 o, .int .i64 a, .int .u64 v] 48) = Q at *
  have HQ : Hid _ := hQ
  generalize reckV o x y = z at *
  clear hQ hx hy
  have hd : Touch Q Q.drew [] := (Touch.refl Q []).drew
  rcases ho with rfl | rfl | rfl | rfl | rfl | rfl
  · go_enter Try.func47, Try.ntmps47
    go_wp2_with fail
    rw [HQ.out]
    clear b0 b1 b2
    go_region_held3 (fun w' => (w'.cell? ⟨g, off, none⟩ = some (.int .u64 x) ∧ w'.cell? ⟨g, off + 1, none⟩ = some (.int .u64 y)) ∧ w'.cell? ⟨w.heap.size, 0, none⟩ = some (.int .u8 8)) ((first | exact HC.out _ hd | exact HC.out _ t3 | exact HC.out _ (t3.alloc _))) ((first | (go_at_call 71; refine (HRE.out _).out.mono ?_; rintro e w3 ⟨rfl, t3'⟩; have t3 : Touch Q w3 [] := hd.trans t3' (by simp))))
    have HOD : Hid _ := HO.out _ (HT.out.trans t3 (by simp))
    have HTD : Hid _ := (HT.out.trans t3 (by simp)).alloc (.cells #[.int .u64 z] 25)
    go_wp2
    go_ret
    exact ⟨_, rfl, HOD.out, HTD.out⟩
  · go_enter Try.func47, Try.ntmps47
    go_wp2_with fail
    rw [HQ.out]
    clear b0 b1 b2
    go_region_held3 (fun w' => (w'.cell? ⟨g, off, none⟩ = some (.int .u64 x) ∧ w'.cell? ⟨g, off + 1, none⟩ = some (.int .u64 y)) ∧ w'.cell? ⟨w.heap.size, 0, none⟩ = some (.int .u8 9)) ((first | exact HC.out _ hd | exact HC.out _ t3 | exact HC.out _ (t3.alloc _))) ((first | (go_at_call 71; refine (HRE.out _).out.mono ?_; rintro e w3 ⟨rfl, t3'⟩; have t3 : Touch Q w3 [] := hd.trans t3' (by simp))))
    have HOD : Hid _ := HO.out _ (HT.out.trans t3 (by simp))
    have HTD : Hid _ := (HT.out.trans t3 (by simp)).alloc (.cells #[.int .u64 z] 25)
    go_wp2
    go_ret
    exact ⟨_, rfl, HOD.out, HTD.out⟩
  · go_enter Try.func47, Try.ntmps47
    go_wp2_with fail
    rw [HQ.out]
    clear b0 b1 b2
    go_region_held3 (fun w' => (w'.cell? ⟨g, off, none⟩ = some (.int .u64 x) ∧ w'.cell? ⟨g, off + 1, none⟩ = some (.int .u64 y)) ∧ w'.cell? ⟨w.heap.size, 0, none⟩ = some (.int .u8 10)) ((first | exact HC.out _ hd | exact HC.out _ t3 | exact HC.out _ (t3.alloc _))) ((first | (go_at_call 71; refine (HRE.out _).out.mono ?_; rintro e w3 ⟨rfl, t3'⟩; have t3 : Touch Q w3 [] := hd.trans t3' (by simp))))
    have HOD : Hid _ := HO.out _ (HT.out.trans t3 (by simp))
    have HTD : Hid _ := (HT.out.trans t3 (by simp)).alloc (.cells #[.int .u64 z] 25)
    go_wp2
    go_ret
    exact ⟨_, rfl, HOD.out, HTD.out⟩
  · go_enter Try.func47, Try.ntmps47
    go_wp2_with fail
    rw [HQ.out]
    clear b0 b1 b2
    go_region_held3 (fun w' => (w'.cell? ⟨g, off, none⟩ = some (.int .u64 x) ∧ w'.cell? ⟨g, off + 1, none⟩ = some (.int .u64 y)) ∧ w'.cell? ⟨w.heap.size, 0, none⟩ = some (.int .u8 11)) ((first | exact HC.out _ hd | exact HC.out _ t3 | exact HC.out _ (t3.alloc _))) ((first | (go_at_call 71; refine (HRE.out _).out.mono ?_; rintro e w3 ⟨rfl, t3'⟩; have t3 : Touch Q w3 [] := hd.trans t3' (by simp))))
    have HOD : Hid _ := HO.out _ (HT.out.trans t3 (by simp))
    have HTD : Hid _ := (HT.out.trans t3 (by simp)).alloc (.cells #[.int .u64 z] 25)
    go_wp2
    go_ret
    exact ⟨_, rfl, HOD.out, HTD.out⟩
  · go_enter Try.func47, Try.ntmps47
    go_wp2_with fail
    rw [HQ.out]
    clear b0 b1 b2
    go_region_held3 (fun w' => (w'.cell? ⟨g, off, none⟩ = some (.int .u64 x) ∧ w'.cell? ⟨g, off + 1, none⟩ = some (.int .u64 y)) ∧ w'.cell? ⟨w.heap.size, 0, none⟩ = some (.int .u8 13)) ((first | exact HC.out _ hd | exact HC.out _ t3 | exact HC.out _ (t3.alloc _))) ((first | (go_at_call 71; refine (HRE.out _).out.mono ?_; rintro e w3 ⟨rfl, t3'⟩; have t3 : Touch Q w3 [] := hd.trans t3' (by simp))))
    have HOD : Hid _ := HO.out _ (HT.out.trans t3 (by simp))
    have HTD : Hid _ := (HT.out.trans t3 (by simp)).alloc (.cells #[.int .u64 z] 25)
    go_wp2
    go_ret
    exact ⟨_, rfl, HOD.out, HTD.out⟩
  · go_enter Try.func47, Try.ntmps47
    go_wp2_with fail
    rw [HQ.out]
    clear b0 b1 b2
    go_region_held3 (fun w' => (w'.cell? ⟨g, off, none⟩ = some (.int .u64 x) ∧ w'.cell? ⟨g, off + 1, none⟩ = some (.int .u64 y)) ∧ w'.cell? ⟨w.heap.size, 0, none⟩ = some (.int .u8 14)) ((first | exact HC.out _ hd | exact HC.out _ t3 | exact HC.out _ (t3.alloc _))) ((first | (go_at_call 71; refine (HRE.out _).out.mono ?_; rintro e w3 ⟨rfl, t3'⟩; have t3 : Touch Q w3 [] := hd.trans t3' (by simp))))
    have HOD : Hid _ := HO.out _ (HT.out.trans t3 (by simp))
    have HTD : Hid _ := (HT.out.trans t3 (by simp)).alloc (.cells #[.int .u64 z] 25)
    go_wp2
    go_ret
    exact ⟨_, rfl, HOD.out, HTD.out⟩

end Go.Proofs.Ytlndbligbpfdpaa
