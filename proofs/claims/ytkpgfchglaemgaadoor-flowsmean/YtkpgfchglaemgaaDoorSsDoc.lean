/-
  package spec, the document's: Copied, plain, one, Fits, reckon BY THEIR CONTRACTS.
-/
import Derived.Test.YtkpgfchglaemgaaDoorAllB
import Derived.Test.YtkpgfchglaemgaaDoorAllA
import Derived.Deep.QuietTactic
import Derived.BigQuiet
import Derived.Deep.RegionHeld3
namespace Go.Proofs.YtkpgfchglaemgaaDoor
set_option linter.unusedVariables false
set_option linter.unusedSimpArgs false
open Go.RowKit
attribute [local go_sem] Oper.semAt_some

set_option maxRecDepth 100000 in
theorem rplain_any (o : Int) (w : World) : Calls Tryd.prog 42 #[.int .u8 o] w fun e w' => e = .returned (.bool (plainO o)) ∧ w = w' := by
  rcases (show o = 4 ∨ o = 5 ∨ o = 6 ∨ o = 7 ∨ o = 26 ∨ o = 28 ∨ o = 21 ∨ o = 22 ∨ o = 23 ∨ o = 24 ∨ o = 25 ∨ (o ≠ 4 ∧ o ≠ 5 ∧ o ≠ 6 ∧ o ≠ 7 ∧ o ≠ 26 ∧ o ≠ 28 ∧ o ≠ 21 ∧ o ≠ 22 ∧ o ≠ 23 ∧ o ≠ 24 ∧ o ≠ 25) by omega) with rfl | rfl | rfl | rfl | rfl | rfl | rfl | rfl | rfl | rfl | rfl | ⟨h4, h5, h6, h7, h26, h28, h21, h22, h23, h24, h25⟩
  any_goals
    show Calls _ _ _ _ fun e w' => e = .returned (.bool false) ∧ w = w'
    go_enter Tryd.func42, Tryd.ntmps42
    go_wp2
    go_ret
    exact ⟨rfl, rfl⟩
  have e : plainO o = true := by unfold plainO; rw [decide_eq_false (by omega)]; rfl
  rw [e]
  clear e
  go_enter Tryd.func42, Tryd.ntmps42
  go_wp2
  go_ret
  exact ⟨rfl, rfl⟩
theorem rone_any (x : Bool) (w : World) : Calls Tryd.prog 55 #[.bool x] w fun e w' => e = .returned (.int .u64 (oneV x)) ∧ w = w' := by
  cases x
  · show Calls _ _ _ _ fun e w' => e = .returned (.int .u64 0) ∧ w = w'
    go_enter Tryd.func55, Tryd.ntmps55
    go_wp2
    go_ret
    exact ⟨rfl, rfl⟩
  · show Calls _ _ _ _ fun e w' => e = .returned (.int .u64 4607182418800017408) ∧ w = w'
    go_enter Tryd.func55, Tryd.ntmps55
    go_wp2
    go_ret
    exact ⟨rfl, rfl⟩

set_option maxRecDepth 100000 in
set_option maxHeartbeats 1000000 in
theorem rfits_any {w : World} {vo : Value} {ao : Option Addr} {n cap : Nat} {D : WD} (hn : n ≤ 1000) (o : Int) :
    Calls Tryd.prog 40 #[.int .u8 o, stV D (.slice ao n cap) vo] w fun e w' => e = .returned (.int .i64 (if fitsW o n = true then 0 else 12)) ∧ Touch w w' [] := by
  have hb : StB (w.alloc (.cells #[.int .i64 D.pc, .slice ao n cap, .int .u64 D.l0, .int .u64 D.l1, .int .u64 D.l2, .int .u64 D.l3, vo] 38)) w.heap.size D (.slice ao n cap) vo := ⟨heap_alloc_new w _⟩
  have HT : Hid (Touch w (w.alloc (.cells #[.int .i64 D.pc, .slice ao n cap, .int .u64 D.l0, .int .u64 D.l1, .int .u64 D.l2, .int .u64 D.l3, vo] 38)) []) := (Touch.refl w []).alloc _
  obtain ⟨x0, x1, x2, x3, x4, x5, x6⟩ := hb.cells
  have HEF : Hid (∀ W, HidC _ _ _ _ _) := fun W => ⟨reff_any o W⟩
  have p0 := pop_le o
  have p1 := push_le o
  unfold fitsW
  generalize popV o = po at *
  generalize pushV o = pu at *
  have hw1 : IntKind.i64.wrap ((n : Int) - po) = (n : Int) - po := by rw [IntKind.wrap_i64]; omega
  have hw2 : IntKind.i64.wrap (12 - pu) = 12 - pu := by rw [IntKind.wrap_i64]; omega
  clear hb x0 x2 x3 x4 x5 x6
  by_cases h1 : po ≤ n
  · have h2 : decide ((n : Int) < po) = false := decide_eq_false (by omega)
    have h1' : decide (po ≤ (n : Int)) = true := decide_eq_true h1
    by_cases h3 : (n : Int) - po + pu ≤ 12
    · have h4 : decide ((n : Int) - po > 12 - pu) = false := decide_eq_false (by omega)
      have e : (decide (po ≤ (n : Int)) && decide ((n : Int) - po + pu ≤ 12)) = true := by rw [h1', decide_eq_true h3]; rfl
      rw [if_pos e]
      clear e h1'
      go_enter Tryd.func40, Tryd.ntmps40
      go_wp2_with fail
      refine (HEF.out _).out.mono ?_
      rintro e w1 ⟨rfl, rfl⟩
      clear HEF
      go_wp2
      go_ret
      exact ⟨rfl, HT.out⟩
    · have h4 : decide ((n : Int) - po > 12 - pu) = true := decide_eq_true (by omega)
      have e : ¬ (decide (po ≤ (n : Int)) && decide ((n : Int) - po + pu ≤ 12)) = true := by rw [h1', decide_eq_false h3]; decide
      rw [if_neg e]
      clear e h1'
      go_enter Tryd.func40, Tryd.ntmps40
      go_wp2_with fail
      refine (HEF.out _).out.mono ?_
      rintro e w1 ⟨rfl, rfl⟩
      clear HEF
      go_wp2
      go_ret
      exact ⟨rfl, HT.out⟩
  · have h2 : decide ((n : Int) < po) = true := decide_eq_true (by omega)
    have e : ¬ (decide (po ≤ (n : Int)) && decide ((n : Int) - po + pu ≤ 12)) = true := by rw [decide_eq_false h1]; simp
    rw [if_neg e]
    clear e
    go_enter Tryd.func40, Tryd.ntmps40
    go_wp2_with fail
    refine (HEF.out _).out.mono ?_
    rintro e w1 ⟨rfl, rfl⟩
    clear HEF
    go_wp2
    go_ret
    exact ⟨rfl, HT.out⟩

/-- Values appended to none. -/
theorem app_new {w : World} {v : Value} {l : List Int} (hr : VRow w v l) (hl : l.length ≤ 1000) :
    ∃ ao cap w', (Builtin.append_ #[35, 35] 35 #[.slice (some ⟨w.heap.size, 0, none⟩) 0 0, v]).run Tryd.prog (w.alloc (.cells #[] 24)) = .ok (.slice ao l.length cap) w' ∧ valOwn w' w.heap.size (.slice ao l.length cap) l ∧ Touch w w' [] := by
  obtain ⟨a, c, e⟩ := hr.form
  subst e
  have t0 := (Touch.refl w []).alloc (.cells #[] 24)
  have h0 : valOwn (w.alloc (.cells #[] 24)) w.heap.size (.slice (some ⟨w.heap.size, 0, none⟩) 0 0) [] := empty_row w 24 1
  obtain ⟨ao, cap, w', h1, h2, h3, h4⟩ := val_app h0 (by simp) (by simp) (SRow.keep hr t0 (by simp)) rfl (by omega) 35
  simp only [List.length_nil, Nat.zero_add, List.nil_append] at h1 h2
  exact ⟨ao, cap, w', h1, h2, t0.trans h3 (fun x hx => .inr (by simp [Value.ownBlock] at hx; omega))⟩
set_option maxRecDepth 100000 in
set_option maxHeartbeats 2000000 in
theorem rcopied_any {w : World} {vs vo : Value} {D : WD} (hs : VRow w vs D.st) (ho : VRow w vo D.out) (hsl : D.st.length ≤ 1000) (hol : D.out.length ≤ 1000) :
    Calls Tryd.prog 20 #[stV D vs vo] w (CopP w D) := by
  have hB : StB ((w.alloc (.cells #[.int .i64 D.pc, vs, .int .u64 D.l0, .int .u64 D.l1, .int .u64 D.l2, .int .u64 D.l3, vo] 38)).alloc (.cells #[.int .i64 0, .slice none 0 0, .int .u64 0, .int .u64 0, .int .u64 0, .int .u64 0, .slice none 0 0] 38)) w.heap.size D vs vo := StB.touch (⟨heap_alloc_new w _⟩ : StB (w.alloc (.cells #[.int .i64 D.pc, vs, .int .u64 D.l0, .int .u64 D.l1, .int .u64 D.l2, .int .u64 D.l3, vo] 38)) w.heap.size D vs vo) ((Touch.refl _ []).alloc _) (by simp)
  have hT0 : Touch w ((w.alloc (.cells #[.int .i64 D.pc, vs, .int .u64 D.l0, .int .u64 D.l1, .int .u64 D.l2, .int .u64 D.l3, vo] 38)).alloc (.cells #[.int .i64 0, .slice none 0 0, .int .u64 0, .int .u64 0, .int .u64 0, .int .u64 0, .slice none 0 0] 38)) [] := ((Touch.refl w []).alloc _).alloc _
  have hR : StB ((w.alloc (.cells #[.int .i64 D.pc, vs, .int .u64 D.l0, .int .u64 D.l1, .int .u64 D.l2, .int .u64 D.l3, vo] 38)).alloc (.cells #[.int .i64 0, .slice none 0 0, .int .u64 0, .int .u64 0, .int .u64 0, .int .u64 0, .slice none 0 0] 38)) (w.heap.size + 1) ⟨0, [], 0, 0, 0, 0, [], 0⟩ (.slice none 0 0) (.slice none 0 0) := ⟨by
    have := heap_alloc_new (w.alloc (.cells #[.int .i64 D.pc, vs, .int .u64 D.l0, .int .u64 D.l1, .int .u64 D.l2, .int .u64 D.l3, vo] 38)) (.cells #[.int .i64 0, .slice none 0 0, .int .u64 0, .int .u64 0, .int .u64 0, .int .u64 0, .slice none 0 0] 38)
    simpa using this⟩
  have hQS : ((w.alloc (.cells #[.int .i64 D.pc, vs, .int .u64 D.l0, .int .u64 D.l1, .int .u64 D.l2, .int .u64 D.l3, vo] 38)).alloc (.cells #[.int .i64 0, .slice none 0 0, .int .u64 0, .int .u64 0, .int .u64 0, .int .u64 0, .slice none 0 0] 38)).heap.size = w.heap.size + 2 := by simp
  generalize hQ : ((w.alloc (.cells #[.int .i64 D.pc, vs, .int .u64 D.l0, .int .u64 D.l1, .int .u64 D.l2, .int .u64 D.l3, vo] 38)).alloc (.cells #[.int .i64 0, .slice none 0 0, .int .u64 0, .int .u64 0, .int .u64 0, .int .u64 0, .slice none 0 0] 38)) = Q at *
  have HQ : Hid _ := hQ
  obtain ⟨a5, c5, w5, hrun5, o5, t5⟩ := app_new (SRow.keep hs hT0 (by simp)) hsl
  have hB5 := hB.touch t5 (by simp)
  have t6 : Touch w5 (w5.setCell ⟨w.heap.size, 1, none⟩ (.slice a5 D.st.length c5)) [w.heap.size] := (Touch.refl w5 _).setCell (.inl (by simp)) _
  have hB6 := hB5.set1 (.slice a5 D.st.length c5)
  have hT6 : Touch w (w5.setCell ⟨w.heap.size, 1, none⟩ (.slice a5 D.st.length c5)) [] := (hT0.trans t5 (by simp)).trans t6 (fun x hx => .inr (by simp at hx; omega))
  have t6Q : Touch Q (w5.setCell ⟨w.heap.size, 1, none⟩ (.slice a5 D.st.length c5)) [w.heap.size] := (t5.mono (by simp)).trans t6 (fun x hx => .inl hx)
  have o6 : valOwn (w5.setCell ⟨w.heap.size, 1, none⟩ (.slice a5 D.st.length c5)) Q.heap.size (.slice a5 D.st.length c5) D.st := ownsRow_touch o5 t6 (fun g hg hs => by have := own_ge o5 g hg; simp at hs; omega)
  generalize hW6 : w5.setCell ⟨w.heap.size, 1, none⟩ (.slice a5 D.st.length c5) = w6 at *
  have HW6 : Hid _ := hW6
  obtain ⟨a7, c7, w7, hrun7, o7, t7⟩ := app_new (SRow.keep ho hT6 (by simp)) hol
  have hB7 := hB6.touch t7 (by simp)
  have hB8 := hB7.set6 (.slice a7 D.out.length c7)
  have t8 : Touch w7 (w7.setCell ⟨w.heap.size, 6, none⟩ (.slice a7 D.out.length c7)) [w.heap.size] := (Touch.refl w7 _).setCell (.inl (by simp)) _
  have hsz6 := t6Q.size
  have o8 : valOwn (w7.setCell ⟨w.heap.size, 6, none⟩ (.slice a7 D.out.length c7)) w6.heap.size (.slice a7 D.out.length c7) D.out := ownsRow_touch o7 t8 (fun g hg hs => by have := own_ge o7 g hg; simp at hs; omega)
  have p8 : valOwn (w7.setCell ⟨w.heap.size, 6, none⟩ (.slice a7 D.out.length c7)) Q.heap.size (.slice a5 D.st.length c5) D.st := ownsRow_touch (ownsRow_touch o6 t7 (by simp)) t8 (fun g hg hs => by have := own_ge o6 g hg; simp at hs; omega)
  have hT8 : Touch w (w7.setCell ⟨w.heap.size, 6, none⟩ (.slice a7 D.out.length c7)) [] := (hT6.trans t7 (by simp)).trans t8 (fun x hx => .inr (by simp at hx; omega))
  have hR8 : StB (w7.setCell ⟨w.heap.size, 6, none⟩ (.slice a7 D.out.length c7)) (w.heap.size + 1) ⟨0, [], 0, 0, 0, 0, [], 0⟩ (.slice none 0 0) (.slice none 0 0) := ((hR.touch t6Q (by simp)).touch t7 (by simp)).touch t8 (by simp)
  have HZ : Hid (∀ W', Touch (w7.setCell ⟨w.heap.size, 6, none⟩ (.slice a7 D.out.length c7)) W' [w.heap.size + 1] → CopP w D (.returned (stV D (.slice a5 D.st.length c5) (.slice a7 D.out.length c7))) W') := fun W' t => by
    have k5 := ownsRow_touch p8 t (fun g hg hs => by have := own_ge p8 g hg; simp at hs; omega)
    have k7 := ownsRow_touch o8 t (fun g hg hs => by have := own_ge o8 g hg; simp at hs; omega)
    refine ⟨_, _, rfl, own_base k5 (by omega), own_base k7 (by omega), fun g hg hg2 => ?_, hT8.trans t (fun x hx => .inr (by simp at hx; omega))⟩
    have l1 := own_lt o6 g hg
    have l2 := own_ge o8 g hg2
    omega
  have HR8 : Hid _ := hR8
  obtain ⟨x0, x1, x2, x3, x4, x5, x6⟩ := hB.cells
  have x1' : (Q.alloc (.cells #[] 24)).cell? ⟨w.heap.size, 1, none⟩ = some vs := (hB.touch ((Touch.refl Q []).alloc _) (by simp)).cells.2.1
  have y1 := hB5.cells.2.1
  have g1 := hB5.fr 1
  have z6' : (w6.alloc (.cells #[] 24)).cell? ⟨w.heap.size, 6, none⟩ = some vo := (hB6.touch ((Touch.refl w6 []).alloc _) (by simp)).cells.2.2.2.2.2.2
  have z6 := hB7.cells.2.2.2.2.2.2
  have g6 := hB7.fr 6
  obtain ⟨q0, q1, q2, q3, q4, q5, q6⟩ := hB8.cells
  obtain ⟨r0, r1, r2, r3, r4, r5, r6⟩ := hR8.cells
  have f0 := hR8.fr 0
  have f1 := hR8.fr 1
  have f2 := hR8.fr 2
  have f3 := hR8.fr 3
  have f4 := hR8.fr 4
  have f5 := hR8.fr 5
  have f6 := hR8.fr 6
  clear hB hR hT0 hQS hs ho hsl hol o5 t5 hB5 t6 hB6 hT6 t6Q o6 o7 t7 hB7 t8 hsz6 o8 p8 hT8 hR8 hB8 x0 x2 x3 x4 x5 x6
  go_enter Tryd.func20, Tryd.ntmps20
  go_wp2_with (at_builtin; first | refine Lib.wpList_append_run _ rfl _ _ _ _ rfl _ _ rfl rfl _ _ hrun5 ?_ | refine Lib.wpList_append_run _ rfl _ _ _ _ rfl _ _ rfl rfl _ _ hrun7 ?_ | (rw [HW6.out]; refine Lib.wpList_append_run _ rfl _ _ _ _ rfl _ _ rfl rfl _ _ hrun7 ?_))
  have hfin := HR8.out.put D (.slice a5 D.st.length c5) (.slice a7 D.out.length c7)
  obtain ⟨z0', z1', z2', z3', z4', z5', z6'⟩ := hfin.cells
  refine bodyPost_ret (v := stV D (.slice a5 D.st.length c5) (.slice a7 D.out.length c7)) ?_ rfl (HZ.out _ (stPut_touch _ _ _ _ _))
  rw [res_cell rfl]
  simp [go_sem, z0', z1', z2', z3', z4', z5', z6']

/-- What an operation makes of what it pops. -/
def rkV (o a b : Int) : Int := if o = 12 then (negV (ofB a.toNat) : Int) else if o = 15 then oneV (!truthB (classB (ofB a.toNat))) else reckV o a b
set_option maxRecDepth 100000 in
set_option maxHeartbeats 2000000 in
theorem rreck_any {w : World} {g off n cap : Nat} (o a b : Int) (ho : o = 8 ∨ o = 9 ∨ o = 10 ∨ o = 11 ∨ o = 12 ∨ o = 13 ∨ o = 14 ∨ o = 15) (ha : Wf64 a) (hb : Wf64 b) (hn : n = 1 ∨ n = 2) (c0 : w.cell? ⟨g, off, none⟩ = some (.int .u64 a)) (c1 : w.cell? ⟨g, off + (n - 1), none⟩ = some (.int .u64 b)) :
    Calls Tryd.prog 45 #[.int .u8 o, .slice (some ⟨g, off, none⟩) n cap] w fun e w' => e = .returned (.int .u64 (rkV o a b)) ∧ Touch w w' [] := by
  obtain ⟨m, rfl⟩ : ∃ m, n = m + 1 := ⟨n - 1, by omega⟩
  have hm : m ≤ 1 := by omega
  rw [Nat.add_sub_cancel] at c1
  have hwm : IntKind.i64.wrap (((m + 1 : Nat) : Int) - 1) = (m : Int) := by rw [IntKind.wrap_i64]; omega
  have hm0 : (0 : Int) ≤ m := by omega
  have hm1 : (m : Int) < ((m + 1 : Nat) : Int) := by omega
  have hm2 : (0 : Int) < ((m + 1 : Nat) : Int) := by omega
  have HON : Hid (∀ x W, HidC _ _ _ _ _) := fun x W => ⟨rone_any x W⟩
  clear hn
  rcases ho with rfl | rfl | rfl | rfl | rfl | rfl | rfl | rfl
  · have e : rkV 8 a b = ((arithB .add (ofB a.toNat) (ofB b.toNat) : Nat) : Int) := rfl
    rw [e]
    have HC : Hid (∀ W, HidC _ _ _ _ _) := fun W => ⟨radd_any a b ha hb W⟩
    clear e ha hb
    generalize ((arithB .add (ofB a.toNat) (ofB b.toNat) : Nat) : Int) = x at *
    go_enter Tryd.func45, Tryd.ntmps45
    go_wp2_with fail
    go_quiet (fail)
    have HT : Hid (Touch w (w.drewN nq) []) := (Touch.refl w []).drewN _
    generalize w.drewN nq = w1 at *
    clear c0 c1
    go_wp2_with fail
    refine (HC.out _).out.mono ?_
    rintro e w2 ⟨rfl, t2⟩
    have HT2 : Hid (Touch w w2 []) := HT.out.trans t2 (by simp)
    clear t2 HC
    clear HON
    go_wp2
    go_ret
    exact ⟨rfl, HT2.out⟩
  · have e : rkV 9 a b = ((arithB .sub (ofB a.toNat) (ofB b.toNat) : Nat) : Int) := rfl
    rw [e]
    have HC : Hid (∀ W, HidC _ _ _ _ _) := fun W => ⟨rsub_any a b ha hb W⟩
    clear e ha hb
    generalize ((arithB .sub (ofB a.toNat) (ofB b.toNat) : Nat) : Int) = x at *
    go_enter Tryd.func45, Tryd.ntmps45
    go_wp2_with fail
    go_quiet (fail)
    have HT : Hid (Touch w (w.drewN nq) []) := (Touch.refl w []).drewN _
    generalize w.drewN nq = w1 at *
    clear c0 c1
    go_wp2_with fail
    refine (HC.out _).out.mono ?_
    rintro e w2 ⟨rfl, t2⟩
    have HT2 : Hid (Touch w w2 []) := HT.out.trans t2 (by simp)
    clear t2 HC
    clear HON
    go_wp2
    go_ret
    exact ⟨rfl, HT2.out⟩
  · have e : rkV 10 a b = ((arithB .mul (ofB a.toNat) (ofB b.toNat) : Nat) : Int) := rfl
    rw [e]
    have HC : Hid (∀ W, HidC _ _ _ _ _) := fun W => ⟨rmul_any a b ha hb W⟩
    clear e ha hb
    generalize ((arithB .mul (ofB a.toNat) (ofB b.toNat) : Nat) : Int) = x at *
    go_enter Tryd.func45, Tryd.ntmps45
    go_wp2_with fail
    go_quiet (fail)
    have HT : Hid (Touch w (w.drewN nq) []) := (Touch.refl w []).drewN _
    generalize w.drewN nq = w1 at *
    clear c0 c1
    go_wp2_with fail
    refine (HC.out _).out.mono ?_
    rintro e w2 ⟨rfl, t2⟩
    have HT2 : Hid (Touch w w2 []) := HT.out.trans t2 (by simp)
    clear t2 HC
    clear HON
    go_wp2
    go_ret
    exact ⟨rfl, HT2.out⟩
  · have e : rkV 11 a b = ((arithB .quo (ofB a.toNat) (ofB b.toNat) : Nat) : Int) := rfl
    rw [e]
    have HC : Hid (∀ W, HidC _ _ _ _ _) := fun W => ⟨rdiv_any a b ha hb W⟩
    clear e ha hb
    generalize ((arithB .quo (ofB a.toNat) (ofB b.toNat) : Nat) : Int) = x at *
    go_enter Tryd.func45, Tryd.ntmps45
    go_wp2_with fail
    go_quiet (fail)
    have HT : Hid (Touch w (w.drewN nq) []) := (Touch.refl w []).drewN _
    generalize w.drewN nq = w1 at *
    clear c0 c1
    go_wp2_with fail
    refine (HC.out _).out.mono ?_
    rintro e w2 ⟨rfl, t2⟩
    have HT2 : Hid (Touch w w2 []) := HT.out.trans t2 (by simp)
    clear t2 HC
    clear HON
    go_wp2
    go_ret
    exact ⟨rfl, HT2.out⟩
  · have e : rkV 12 a b = (negV (ofB a.toNat) : Int) := rfl
    rw [e]
    have HC : Hid (∀ W, HidC _ _ _ _ _) := fun W => ⟨rneg_any a ha W⟩
    clear e ha hb
    generalize negV (ofB a.toNat) = x at *
    go_enter Tryd.func45, Tryd.ntmps45
    go_wp2_with fail
    go_quiet (fail)
    have HT : Hid (Touch w (w.drewN nq) []) := (Touch.refl w []).drewN _
    generalize w.drewN nq = w1 at *
    clear c0 c1
    go_wp2_with fail
    refine (HC.out _).out.mono ?_
    rintro e w2 ⟨rfl, rfl⟩
    have HT2 : Hid (Touch w w1 []) := HT.out
    clear HC
    clear HON
    go_wp2
    go_ret
    exact ⟨rfl, HT2.out⟩
  · have e : rkV 13 a b = oneV (lessB (ofB a.toNat) (ofB b.toNat)) := rfl
    rw [e]
    have HC : Hid (∀ W, HidC _ _ _ _ _) := fun W => ⟨rless_any a b ha hb W⟩
    clear e ha hb
    generalize (lessB (ofB a.toNat) (ofB b.toNat)) = x at *
    go_enter Tryd.func45, Tryd.ntmps45
    go_wp2_with fail
    go_quiet (fail)
    have HT : Hid (Touch w (w.drewN nq) []) := (Touch.refl w []).drewN _
    generalize w.drewN nq = w1 at *
    clear c0 c1
    go_wp2_with fail
    refine (HC.out _).out.mono ?_
    rintro e w2 ⟨rfl, rfl⟩
    have HT2 : Hid (Touch w w1 []) := HT.out
    clear HC
    go_wp2_with fail
    refine (HON.out _ _).out.mono ?_
    rintro e w3 ⟨rfl, rfl⟩
    clear HON
    go_wp2
    go_ret
    exact ⟨rfl, HT2.out⟩
  · have e : rkV 14 a b = oneV (((ofB a.toNat : Nat) : Int) == (ofB b.toNat : Nat)) := rfl
    rw [e]
    have HC : Hid (∀ W, HidC _ _ _ _ _) := fun W => ⟨rsame_any a b ha hb W⟩
    clear e ha hb
    generalize (((ofB a.toNat : Nat) : Int) == (ofB b.toNat : Nat)) = x at *
    go_enter Tryd.func45, Tryd.ntmps45
    go_wp2_with fail
    go_quiet (fail)
    have HT : Hid (Touch w (w.drewN nq) []) := (Touch.refl w []).drewN _
    generalize w.drewN nq = w1 at *
    clear c0 c1
    go_wp2_with fail
    refine (HC.out _).out.mono ?_
    rintro e w2 ⟨rfl, rfl⟩
    have HT2 : Hid (Touch w w1 []) := HT.out
    clear HC
    go_wp2_with fail
    refine (HON.out _ _).out.mono ?_
    rintro e w3 ⟨rfl, rfl⟩
    clear HON
    go_wp2
    go_ret
    exact ⟨rfl, HT2.out⟩
  · have e : rkV 15 a b = oneV (!truthB (classB (ofB a.toNat))) := rfl
    rw [e]
    have HC : Hid (∀ W, HidC _ _ _ _ _) := fun W => ⟨rtruth_any a ha W⟩
    clear e ha hb
    generalize truthB (classB (ofB a.toNat)) = x at *
    go_enter Tryd.func45, Tryd.ntmps45
    go_wp2_with fail
    go_quiet (fail)
    have HT : Hid (Touch w (w.drewN nq) []) := (Touch.refl w []).drewN _
    generalize w.drewN nq = w1 at *
    clear c0 c1
    go_wp2_with fail
    refine (HC.out _).out.mono ?_
    rintro e w2 ⟨rfl, rfl⟩
    have HT2 : Hid (Touch w w1 []) := HT.out
    clear HC
    go_wp2_with fail
    refine (HON.out _ _).out.mono ?_
    rintro e w3 ⟨rfl, rfl⟩
    clear HON
    go_wp2
    go_ret
    exact ⟨rfl, HT2.out⟩

end Go.Proofs.YtkpgfchglaemgaaDoor
