/-
  LocksMean, WALKED.
-/
import Derived.Test.YtjbbjbbkembknaaLmBase
import Derived.Deep.QuietTactic
import Derived.BigQuiet
namespace Go.Proofs.Ytjbbjbbkembknaa
set_option linter.unusedVariables false
set_option linter.unusedSimpArgs false
open Go.RowKit
attribute [local go_sem] Oper.semAt_some

set_option maxRecDepth 100000 in
set_option maxHeartbeats 8000000 in
theorem lm_A (k x y : Int) (k0 : 0 ≤ k) (k1 : k ≤ 255) (x0 : 0 ≤ x) (x1 : x ≤ 255) (y0 : 0 ≤ y) (y1 : y ≤ 255) (hj : k % 4 = 0) (hc : y % 5 = 0) (w : World) :
    Calls Try.prog 3 #[.int .u8 k, .int .u8 x, .int .u8 y] w fun e w' => e = .returned (.bool true) ∧ Touch w w' [] := by
  obtain ⟨u, hu⟩ : ∃ u, u = x % 4 := ⟨_, rfl⟩
  obtain ⟨n, hn⟩ : ∃ n, n = y % 5 := ⟨_, rfl⟩
  obtain ⟨m, hm⟩ : ∃ m, m = n - 1 := ⟨_, rfl⟩
  rw [← hn] at hc
  have u0 : 0 ≤ u := by omega
  have u1 : u < 4 := by omega
  have n0 : 0 ≤ n := by omega
  have n1 : n < 5 := by omega
  have hr2 : x.tmod 4 = u := by rw [hu, Int.tmod_eq_emod_of_nonneg x0]
  have hr3 : y.tmod 5 = n := by rw [hn, Int.tmod_eq_emod_of_nonneg y0]
  have hw1 : IntKind.i64.wrap x = x := by rw [IntKind.wrap_i64]; omega
  have hw2 : IntKind.i64.wrap y = y := by rw [IntKind.wrap_i64]; omega
  have hw3 : IntKind.i64.wrap u = u := by rw [IntKind.wrap_i64]; omega
  have hw4 : IntKind.i64.wrap n = n := by rw [IntKind.wrap_i64]; omega
  have H1 : HidC _ _ _ _ _ := ⟨lone_any k 2 u k0 k1 (by omega) (by omega) u0 u1 w⟩
  rw [hj] at H1
  unfold OneP at H1
  have hrun := lm_run 0 u n (by omega) (by omega) u0 u1 n0 n1
  have hblk := lm_blk 0 u n (by omega) (by omega) u0 u1 n0 n1
  have hn0 : n = 0 := hc
  subst hn0
  rw [if_neg (by omega)] at hrun
  obtain ⟨hR1, hR2, hR3, hR4, hR5⟩ := hrun
  have hW : lmW 0 u 0 = numV (u + 1) := by unfold lmW; rfl
  have hS : lmS 0 u 0 = [] := by unfold lmS; rfl
  rw [hW] at hR4
  rw [hS] at hR5
  clear hW hS
  generalize lmR 0 u 0 = R at *
  generalize oneL 0 2 u = L at *
  obtain ⟨r1, ⟨pc, st, l0, l1, l2, l3, ou, fu⟩, h⟩ := R
  simp only at hR1 hR2 hR3 hR4 hR5
  subst hR1 hR2 hR5
  have HR3 : Hid _ := hR3
  have HR4 : Hid _ := hR4
  clear hR3 hR4
  have HBK : Hid _ := hblk
  have HIN : Hid (∀ m : Int, -100 ≤ m → m ≤ 100 → ∀ W, HidC Try.prog 8 #[.int .i64 m] W (fun e w' => e = .returned (.tuple #[.int .u64 (numV m), .bool true]) ∧ W = w')) := fun m a b W => ⟨rint_ok m (by omega) (by omega) W⟩
  clear hblk hj hu hn hm
  go_enter Try.func3, Try.ntmps3
  go_wp2_with fail
  refine H1.out.mono ?_
  rintro e w1 ⟨ao, cap, rfl, hin, s1⟩
  have hat := LmAt.new (c := 1) (u := u) hin s1
  clear hin s1 H1
  generalize hp : w1.heap.size = p at *
  obtain ⟨b0, b1, b2⟩ := hat.box.cells
  have HA1 : Hid _ := hat
  clear hat
  go_wp2_with fail
  generalize w1.alloc (.cells #[.int .u8 1, .int .i64 u, .int .u64 0] 27) = Q1 at *
  refine (llive_any _).mono ?_
  rintro e w2 ⟨rfl, t2⟩
  have hat := HA1.out.keep t2 (by simp)
  clear b0 b1 b2 t2 HA1
  obtain ⟨b0, b1, b2⟩ := hat.box.cells
  have HA2 : Hid _ := hat
  clear hat
  go_wp2_with fail
  refine (rnew_mutex _).mono ?_
  rintro e w3 ⟨b, rfl, ho, hb, t3⟩
  have hat := HA2.out.keep t3 (by simp)
  have hpb : p < b := Nat.lt_of_lt_of_le HA2.out.lt hb
  clear b0 b1 b2 t3 HA2 hb
  obtain ⟨b0, b1, b2⟩ := hat.box.cells
  have HA3 : Hid _ := hat
  have HO3 : Hid _ := ho
  clear hat ho
  go_wp2_with fail
  refine (HIN.out 0 (by omega) (by omega) _).out.mono ?_
  rintro e _ ⟨rfl, rfl⟩
  have hat := HA3.out.keep ((Touch.refl w3 []).alloc (.cells #[.int .u64 0, .int .u64 0, .int .u64 (numV 0)] 25)) (by simp)
  have ho := HO3.out.touch ((Touch.refl w3 []).alloc (.cells #[.int .u64 0, .int .u64 0, .int .u64 (numV 0)] 25)) (by simp)
  have hbk := HBK.out (w3.alloc (.cells #[.int .u64 0, .int .u64 0, .int .u64 (numV 0)] 25)) ao cap (some ⟨w3.heap.size, 0, none⟩) 3 hat.ins (row3 w3 0 0 (numV 0))
  have HC5 : HidC _ _ _ _ _ := hbk
  have HA5 : Hid _ := hat
  have HO5 : Hid _ := ho
  clear b0 b1 b2 hat ho hbk HA3 HO3 HBK
  go_wp2_with fail
  generalize w3.alloc (.cells #[.int .u64 0, .int .u64 0, .int .u64 (numV 0)] 25) = Q5 at *
  refine HC5.out.mono ?_
  rintro e w6 (⟨_, sa, sc, oa, oc, ha, hc6, rfl, v1, v2, v3, t6, f1, f2, f3⟩ | ⟨h0, _⟩)
  rotate_left
  · simp at h0
  simp only [List.length_cons, List.length_nil, Nat.zero_add] at v1 f1
  have hb5 := lt_of_heap HO5.out.st
  have t7 : Touch w6 (w6.alloc (.cells (outA 1 ⟨(L.length : Int), [], l0, l1, l2, l3, ou, fu⟩ (.slice sa 0 sc) (.slice oa ou.length oc) (.slice ha h.length hc6) (.slice none 0 0) 0) 47)) [] := (Touch.refl w6 []).alloc _
  have hq : OutB (w6.alloc (.cells (outA 1 ⟨(L.length : Int), [], l0, l1, l2, l3, ou, fu⟩ (.slice sa 0 sc) (.slice oa ou.length oc) (.slice ha h.length hc6) (.slice none 0 0) 0) 47)) w6.heap.size (outA 1 ⟨(L.length : Int), [], l0, l1, l2, l3, ou, fu⟩ (.slice sa 0 sc) (.slice oa ou.length oc) (.slice ha h.length hc6) (.slice none 0 0) 0) := ⟨heap_alloc_new w6 _⟩
  have hat := HA5.out.keep (t6.trans t7 (by simp)) (by simp)
  have ho := HO5.out.touch (t6.trans t7 (by simp)) (by simp)
  have hqb : w6.heap.size ∉ [b] := by have := t6.size; simp; omega
  have HV3 : Hid _ := frn_keep v3 f3 t7 (by simp)
  have HV1 : Hid _ := frn_keep v1 f1 t7 (by simp)
  have HF3 : Hid _ := f3
  have HF1 : Hid _ := f1
  have HB5 : Hid (b < Q5.heap.size) := hb5
  obtain ⟨b0, b1, b2⟩ := hat.box.cells
  simp only [outA] at b0 b1 b2
  have HA7 : Hid _ := hat
  have HO7 : Hid _ := ho
  have HQ7 : Hid _ := hq
  have HQB : Hid _ := hqb
  clear hat ho hq hqb t7 t6 v1 v2 v3 f1 f2 f3 hb5 HC5 HA5 HO5
  go_wp2_with fail
  refine (rdo_lock (u := u) (by omega) HO7.out).mono ?_
  rintro e w8 ⟨rfl, ho, t8⟩
  have tA : Touch w8 (w8.alloc (.cells #[.int .u64 4607182418800017408, .bool false, .int .i64 0] 36)) [] := (Touch.refl w8 []).alloc _
  have hat := HA7.out.keep (t8.trans tA (by simp)) (by simp; exact hpb)
  have hq := HQ7.out.touch (t8.trans tA (by simp)) HQB.out
  have an := ans_cells (heap_alloc_new w8 (.cells #[.int .u64 4607182418800017408, .bool false, .int .i64 0] 36))
  obtain ⟨a0, a1, a2⟩ := an
  have hv3 := SRow.keepB HV3.out (t8.trans tA (by simp)) (fun _ g hg hs => by have := HF3.out g hg; have := HB5.out; simp at hs; omega)
  have hv1 := SRow.keepB HV1.out (t8.trans tA (by simp)) (fun _ g hg hs => by have := HF1.out g hg; have := HB5.out; simp at hs; omega)
  have ho' := ho.touch tA (by simp)
  have HO9 : Hid _ := ho'
  have HA9 : Hid _ := hat
  have HQ9 : Hid _ := hq
  have HV9 : Hid _ := hv3
  have HW9 : Hid _ := hv1
  have HAN : Hid _ := heap_alloc_new w8 (.cells #[.int .u64 4607182418800017408, .bool false, .int .i64 0] 36)
  clear b0 b1 b2 hat hq ho t8 tA HA7 HO7 HQ7 HQB hv3 hv1 HV3 HV1 HF3 HF1 ho' HB5
  obtain ⟨b0, b1, b2⟩ := HA9.out.box.cells
  go_wp2_with fail
  generalize hX : w8.alloc (.cells #[.int .u64 4607182418800017408, .bool false, .int .i64 0] 36) = X at *
  have hX' := hX
  clear hX hX' a0 a1 a2 b0 b1 b2
  refine (rshape_any HO9.out).mono ?_
  rintro e w9 ⟨av, ms, cs, rfl, t9⟩
  have tS : Touch w9 (w9.alloc (.cells #[.int .i64 u, .int .i64 0, .int .i64 0, .slice av ms cs] 50)) [] := (Touch.refl w9 []).alloc _
  have t10 : Touch X (w9.alloc (.cells #[.int .i64 u, .int .i64 0, .int .i64 0, .slice av ms cs] 50)) [] := t9.trans tS (by simp)
  obtain ⟨⟨c0, c1, c2, c3⟩, _⟩ := shp_cells (heap_alloc_new w9 (.cells #[.int .i64 u, .int .i64 0, .int .i64 0, .slice av ms cs] 50))
  have hat := HA9.out.keep t10 (by simp)
  obtain ⟨b0, b1, b2⟩ := hat.box.cells
  have hq := HQ9.out.touch t10 (by simp)
  have q0 := hq.cell 0
  have q1 := hq.cell 1
  have q2 := hq.cell 2
  have q8 := hq.cell 8
  simp only [outA, List.getElem?_toArray, List.getElem?_cons_zero, List.getElem?_cons_succ] at q0 q1 q2 q8
  have hv3 := SRow.keep HV9.out t10 (by simp)
  have hR3 : h.length = 3 := HR3.out
  have hR4 := HR4.out
  obtain ⟨gh, offh, rfl, _, ch⟩ := hv3.at 2 (by omega)
  have h2 := ch 0 (by omega)
  have h2' : (w9.alloc (.cells #[.int .i64 u, .int .i64 0, .int .i64 0, .slice av ms cs] 50)).cell? ⟨gh, offh + 2, none⟩ = some (.int .u64 (numV (u + 1))) := by
    rw [← hR4]
    have e : h.getD 2 0 = h[2]'(by omega) := by rw [List.getD_eq_getElem?_getD, List.getElem?_eq_getElem (by omega)]; rfl
    rw [e]
    exact h2
  clear h2
  obtain ⟨a0, a1, a2⟩ := ans_cells ((t10.block _ (lt_of_heap HAN.out) (by simp)).trans HAN.out)
  rw [hR3] at q8
  have HT : Hid _ := hat.t
  clear hat hq hv3 ch tS t9 t10 HA9 HQ9 HV9 HW9 HAN HO9
  have e1 : IntKind.i64.wrap (u + 1) = u + 1 := by rw [IntKind.wrap_i64]; omega
  go_wp2_with fail
  generalize w9.alloc (.cells #[.int .i64 u, .int .i64 0, .int .i64 0, .slice av ms cs] 50) = Y at *
  refine (HIN.out (u + 1) (by omega) (by omega) _).out.mono ?_
  rintro e _ ⟨rfl, rfl⟩
  clear HIN
  go_wp2
  go_ret
  exact ⟨rfl, HT.out⟩

set_option maxRecDepth 100000 in
set_option maxHeartbeats 8000000 in
theorem lm_B (k x y : Int) (k0 : 0 ≤ k) (k1 : k ≤ 255) (x0 : 0 ≤ x) (x1 : x ≤ 255) (y0 : 0 ≤ y) (y1 : y ≤ 255) (hj : k % 4 = 0) (hc : 0 < y % 5) (w : World) :
    Calls Try.prog 3 #[.int .u8 k, .int .u8 x, .int .u8 y] w fun e w' => e = .returned (.bool true) ∧ Touch w w' [] := by
  obtain ⟨u, hu⟩ : ∃ u, u = x % 4 := ⟨_, rfl⟩
  obtain ⟨n, hn⟩ : ∃ n, n = y % 5 := ⟨_, rfl⟩
  obtain ⟨m, hm⟩ : ∃ m, m = n - 1 := ⟨_, rfl⟩
  rw [← hn] at hc
  have u0 : 0 ≤ u := by omega
  have u1 : u < 4 := by omega
  have n0 : 0 ≤ n := by omega
  have n1 : n < 5 := by omega
  have hr2 : x.tmod 4 = u := by rw [hu, Int.tmod_eq_emod_of_nonneg x0]
  have hr3 : y.tmod 5 = n := by rw [hn, Int.tmod_eq_emod_of_nonneg y0]
  have hw1 : IntKind.i64.wrap x = x := by rw [IntKind.wrap_i64]; omega
  have hw2 : IntKind.i64.wrap y = y := by rw [IntKind.wrap_i64]; omega
  have hw3 : IntKind.i64.wrap u = u := by rw [IntKind.wrap_i64]; omega
  have hw4 : IntKind.i64.wrap n = n := by rw [IntKind.wrap_i64]; omega
  have H1 : HidC _ _ _ _ _ := ⟨lone_any k 2 u k0 k1 (by omega) (by omega) u0 u1 w⟩
  rw [hj] at H1
  unfold OneP at H1
  have hrun := lm_run 0 u n (by omega) (by omega) u0 u1 n0 n1
  have hblk := lm_blk 0 u n (by omega) (by omega) u0 u1 n0 n1
  have hwm : IntKind.i64.wrap (n - 1) = m := by rw [IntKind.wrap_i64]; omega
  have hgt : decide (n > 0) = true := decide_eq_true (by omega)
  have hgt2 : decide (0 < n) = true := decide_eq_true (by omega)
  have m0 : 0 ≤ m := by omega
  have m1 : m < 4 := by omega
  rw [if_pos (by omega)] at hrun
  generalize lmR 0 u n = R at *
  generalize oneL 0 2 u = L at *
  obtain ⟨r1, ⟨pc, st, l0, l1, l2, l3, ou, fu⟩, h⟩ := R
  simp only at hrun
  subst hrun
  have HBK : Hid _ := hblk
  have HIN : Hid (∀ m : Int, -100 ≤ m → m ≤ 100 → ∀ W, HidC Try.prog 8 #[.int .i64 m] W (fun e w' => e = .returned (.tuple #[.int .u64 (numV m), .bool true]) ∧ W = w')) := fun m a b W => ⟨rint_ok m (by omega) (by omega) W⟩
  clear hblk hj hu hn hm hc
  go_enter Try.func3, Try.ntmps3
  go_wp2_with fail
  refine H1.out.mono ?_
  rintro e w1 ⟨ao, cap, rfl, hin, s1⟩
  have hat := LmAt.new (c := 1) (u := u) hin s1
  clear hin s1 H1
  generalize hp : w1.heap.size = p at *
  obtain ⟨b0, b1, b2⟩ := hat.box.cells
  have HA1 : Hid _ := hat
  clear hat
  go_wp2_with fail
  generalize w1.alloc (.cells #[.int .u8 1, .int .i64 u, .int .u64 0] 27) = Q1 at *
  refine (llive_any _).mono ?_
  rintro e w2 ⟨rfl, t2⟩
  have hat := HA1.out.keep t2 (by simp)
  clear b0 b1 b2 t2 HA1
  obtain ⟨b0, b1, b2⟩ := hat.box.cells
  have HA2 : Hid _ := hat
  clear hat
  go_wp2_with fail
  refine (rnew_mutex _).mono ?_
  rintro e w3 ⟨b, rfl, ho, hb, t3⟩
  have hat := HA2.out.keep t3 (by simp)
  have hpb : p < b := Nat.lt_of_lt_of_le HA2.out.lt hb
  clear b0 b1 b2 t3 HA2 hb
  obtain ⟨b0, b1, b2⟩ := hat.box.cells
  have HA3 : Hid _ := hat
  have HO3 : Hid _ := ho
  clear hat ho
  go_wp2_with fail
  refine (rdo_lock (u := m) (by omega) HO3.out).mono ?_
  rintro e w4 ⟨rfl, ho, t4⟩
  have hat := HA3.out.keep t4 (by simp; exact hpb)
  clear b0 b1 b2 t4 HA3 HO3
  obtain ⟨b0, b1, b2⟩ := hat.box.cells
  have HA4 : Hid _ := hat
  have HO4 : Hid _ := ho
  clear hat ho
  go_wp2_with fail
  refine (HIN.out n (by omega) (by omega) _).out.mono ?_
  rintro e _ ⟨rfl, rfl⟩
  have hat := HA4.out.keep ((Touch.refl w4 []).alloc (.cells #[.int .u64 0, .int .u64 0, .int .u64 (numV n)] 25)) (by simp)
  have ho := HO4.out.touch ((Touch.refl w4 []).alloc (.cells #[.int .u64 0, .int .u64 0, .int .u64 (numV n)] 25)) (by simp)
  have hbk := HBK.out (w4.alloc (.cells #[.int .u64 0, .int .u64 0, .int .u64 (numV n)] 25)) ao cap (some ⟨w4.heap.size, 0, none⟩) 3 hat.ins (row3 w4 0 0 (numV n))
  have HC5 : HidC _ _ _ _ _ := hbk
  have HA5 : Hid _ := hat
  have HO5 : Hid _ := ho
  clear b0 b1 b2 hat ho hbk HA4 HO4 HBK
  go_wp2_with fail
  generalize w4.alloc (.cells #[.int .u64 0, .int .u64 0, .int .u64 (numV n)] 25) = Q5 at *
  refine HC5.out.mono ?_
  rintro e w6 (⟨h0, _⟩ | ⟨_, sa, sc, oa, oc, ha, hc6, rfl, v1, v2, v3, t6, f1, f2, f3⟩)
  · simp at h0
  have hb5 := lt_of_heap HO5.out.st
  have t7 : Touch w6 (w6.alloc (.cells (outA 2 zWD (.slice sa 0 sc) (.slice oa 0 oc) (.slice ha 3 hc6) (.slice none 0 0) 0) 47)) [] := (Touch.refl w6 []).alloc _
  have hq : OutB (w6.alloc (.cells (outA 2 zWD (.slice sa 0 sc) (.slice oa 0 oc) (.slice ha 3 hc6) (.slice none 0 0) 0) 47)) w6.heap.size (outA 2 zWD (.slice sa 0 sc) (.slice oa 0 oc) (.slice ha 3 hc6) (.slice none 0 0) 0) := ⟨heap_alloc_new w6 _⟩
  have hat := HA5.out.keep (t6.trans t7 (by simp)) (by simp)
  have ho := HO5.out.touch (t6.trans t7 (by simp)) (by simp)
  have hqb : w6.heap.size ∉ [b] := by have := t6.size; simp; omega
  obtain ⟨b0, b1, b2⟩ := hat.box.cells
  simp only [outA] at b0 b1 b2
  have HA7 : Hid _ := hat
  have HO7 : Hid _ := ho
  have HQ7 : Hid _ := hq
  have HQB : Hid _ := hqb
  clear hat ho hq hqb t7 t6 v1 v2 v3 f1 f2 f3 hb5 HC5 HA5 HO5
  go_wp2_with fail
  refine (rdo_held (u := u) m0 (by omega) HO7.out).mono ?_
  rintro e w8 ⟨rfl, ho, t8⟩
  have tA : Touch w8 (w8.alloc (.cells #[.int .u64 0, .bool true, .int .i64 0] 36)) [] := (Touch.refl w8 []).alloc _
  have hat := HA7.out.keep (t8.trans tA (by simp)) (by simp; exact hpb)
  have hq := HQ7.out.touch (t8.trans tA (by simp)) HQB.out
  have an := ans_cells (heap_alloc_new w8 (.cells #[.int .u64 0, .bool true, .int .i64 0] 36))
  obtain ⟨a0, a1, a2⟩ := an
  have q0 := hq.cell 0
  simp only [outA, List.getElem?_toArray, List.getElem?_cons_zero, List.getElem?_cons_succ] at q0
  have HT : Hid _ := hat.t
  clear b0 b1 b2 hat hq ho t8 tA HA7 HO7 HQ7 HQB
  go_wp2
  go_ret
  exact ⟨rfl, HT.out⟩

set_option maxRecDepth 100000 in
set_option maxHeartbeats 8000000 in
theorem lm_C (k x y : Int) (k0 : 0 ≤ k) (k1 : k ≤ 255) (x0 : 0 ≤ x) (x1 : x ≤ 255) (y0 : 0 ≤ y) (y1 : y ≤ 255) (hj : k % 4 = 1) (hc : y % 5 = 0) (w : World) :
    Calls Try.prog 3 #[.int .u8 k, .int .u8 x, .int .u8 y] w fun e w' => e = .returned (.bool true) ∧ Touch w w' [] := by
  obtain ⟨u, hu⟩ : ∃ u, u = x % 4 := ⟨_, rfl⟩
  obtain ⟨n, hn⟩ : ∃ n, n = y % 5 := ⟨_, rfl⟩
  obtain ⟨m, hm⟩ : ∃ m, m = n - 1 := ⟨_, rfl⟩
  rw [← hn] at hc
  have u0 : 0 ≤ u := by omega
  have u1 : u < 4 := by omega
  have n0 : 0 ≤ n := by omega
  have n1 : n < 5 := by omega
  have hr2 : x.tmod 4 = u := by rw [hu, Int.tmod_eq_emod_of_nonneg x0]
  have hr3 : y.tmod 5 = n := by rw [hn, Int.tmod_eq_emod_of_nonneg y0]
  have hw1 : IntKind.i64.wrap x = x := by rw [IntKind.wrap_i64]; omega
  have hw2 : IntKind.i64.wrap y = y := by rw [IntKind.wrap_i64]; omega
  have hw3 : IntKind.i64.wrap u = u := by rw [IntKind.wrap_i64]; omega
  have hw4 : IntKind.i64.wrap n = n := by rw [IntKind.wrap_i64]; omega
  have H1 : HidC _ _ _ _ _ := ⟨lone_any k 2 u k0 k1 (by omega) (by omega) u0 u1 w⟩
  rw [hj] at H1
  unfold OneP at H1
  have hrun := lm_run 1 u n (by omega) (by omega) u0 u1 n0 n1
  have hblk := lm_blk 1 u n (by omega) (by omega) u0 u1 n0 n1
  have hn0 : n = 0 := hc
  subst hn0
  rw [if_neg (by omega)] at hrun
  obtain ⟨hR1, hR2, hR3, hR4, hR5⟩ := hrun
  have hW : lmW 1 u 0 = numV 0 := by unfold lmW; rw [if_neg (by omega), if_pos rfl, if_neg (by omega)]
  have hS : lmS 1 u 0 = [0] := by unfold lmS; rw [if_pos rfl, if_neg (by omega)]
  rw [hW] at hR4
  rw [hS] at hR5
  clear hW hS
  generalize lmR 1 u 0 = R at *
  generalize oneL 1 2 u = L at *
  obtain ⟨r1, ⟨pc, st, l0, l1, l2, l3, ou, fu⟩, h⟩ := R
  simp only at hR1 hR2 hR3 hR4 hR5
  subst hR1 hR2 hR5
  have HR3 : Hid _ := hR3
  have HR4 : Hid _ := hR4
  clear hR3 hR4
  have HBK : Hid _ := hblk
  have HIN : Hid (∀ m : Int, -100 ≤ m → m ≤ 100 → ∀ W, HidC Try.prog 8 #[.int .i64 m] W (fun e w' => e = .returned (.tuple #[.int .u64 (numV m), .bool true]) ∧ W = w')) := fun m a b W => ⟨rint_ok m (by omega) (by omega) W⟩
  clear hblk hj hu hn hm
  go_enter Try.func3, Try.ntmps3
  go_wp2_with fail
  refine H1.out.mono ?_
  rintro e w1 ⟨ao, cap, rfl, hin, s1⟩
  have hat := LmAt.new (c := 2) (u := u) hin s1
  clear hin s1 H1
  generalize hp : w1.heap.size = p at *
  obtain ⟨b0, b1, b2⟩ := hat.box.cells
  have HA1 : Hid _ := hat
  clear hat
  go_wp2_with fail
  generalize w1.alloc (.cells #[.int .u8 2, .int .i64 u, .int .u64 0] 27) = Q1 at *
  refine (llive_any _).mono ?_
  rintro e w2 ⟨rfl, t2⟩
  have hat := HA1.out.keep t2 (by simp)
  clear b0 b1 b2 t2 HA1
  obtain ⟨b0, b1, b2⟩ := hat.box.cells
  have HA2 : Hid _ := hat
  clear hat
  go_wp2_with fail
  refine (rnew_mutex _).mono ?_
  rintro e w3 ⟨b, rfl, ho, hb, t3⟩
  have hat := HA2.out.keep t3 (by simp)
  have hpb : p < b := Nat.lt_of_lt_of_le HA2.out.lt hb
  clear b0 b1 b2 t3 HA2 hb
  obtain ⟨b0, b1, b2⟩ := hat.box.cells
  have HA3 : Hid _ := hat
  have HO3 : Hid _ := ho
  clear hat ho
  go_wp2_with fail
  refine (HIN.out 0 (by omega) (by omega) _).out.mono ?_
  rintro e _ ⟨rfl, rfl⟩
  have hat := HA3.out.keep ((Touch.refl w3 []).alloc (.cells #[.int .u64 0, .int .u64 0, .int .u64 (numV 0)] 25)) (by simp)
  have ho := HO3.out.touch ((Touch.refl w3 []).alloc (.cells #[.int .u64 0, .int .u64 0, .int .u64 (numV 0)] 25)) (by simp)
  have hbk := HBK.out (w3.alloc (.cells #[.int .u64 0, .int .u64 0, .int .u64 (numV 0)] 25)) ao cap (some ⟨w3.heap.size, 0, none⟩) 3 hat.ins (row3 w3 0 0 (numV 0))
  have HC5 : HidC _ _ _ _ _ := hbk
  have HA5 : Hid _ := hat
  have HO5 : Hid _ := ho
  clear b0 b1 b2 hat ho hbk HA3 HO3 HBK
  go_wp2_with fail
  generalize w3.alloc (.cells #[.int .u64 0, .int .u64 0, .int .u64 (numV 0)] 25) = Q5 at *
  refine HC5.out.mono ?_
  rintro e w6 (⟨_, sa, sc, oa, oc, ha, hc6, rfl, v1, v2, v3, t6, f1, f2, f3⟩ | ⟨h0, _⟩)
  rotate_left
  · simp at h0
  simp only [List.length_cons, List.length_nil, Nat.zero_add] at v1 f1
  have hb5 := lt_of_heap HO5.out.st
  have t7 : Touch w6 (w6.alloc (.cells (outA 1 ⟨(L.length : Int), [0], l0, l1, l2, l3, ou, fu⟩ (.slice sa 1 sc) (.slice oa ou.length oc) (.slice ha h.length hc6) (.slice none 0 0) 0) 47)) [] := (Touch.refl w6 []).alloc _
  have hq : OutB (w6.alloc (.cells (outA 1 ⟨(L.length : Int), [0], l0, l1, l2, l3, ou, fu⟩ (.slice sa 1 sc) (.slice oa ou.length oc) (.slice ha h.length hc6) (.slice none 0 0) 0) 47)) w6.heap.size (outA 1 ⟨(L.length : Int), [0], l0, l1, l2, l3, ou, fu⟩ (.slice sa 1 sc) (.slice oa ou.length oc) (.slice ha h.length hc6) (.slice none 0 0) 0) := ⟨heap_alloc_new w6 _⟩
  have hat := HA5.out.keep (t6.trans t7 (by simp)) (by simp)
  have ho := HO5.out.touch (t6.trans t7 (by simp)) (by simp)
  have hqb : w6.heap.size ∉ [b] := by have := t6.size; simp; omega
  have HV3 : Hid _ := frn_keep v3 f3 t7 (by simp)
  have HV1 : Hid _ := frn_keep v1 f1 t7 (by simp)
  have HF3 : Hid _ := f3
  have HF1 : Hid _ := f1
  have HB5 : Hid (b < Q5.heap.size) := hb5
  obtain ⟨b0, b1, b2⟩ := hat.box.cells
  simp only [outA] at b0 b1 b2
  have HA7 : Hid _ := hat
  have HO7 : Hid _ := ho
  have HQ7 : Hid _ := hq
  have HQB : Hid _ := hqb
  clear hat ho hq hqb t7 t6 v1 v2 v3 f1 f2 f3 hb5 HC5 HA5 HO5
  go_wp2_with fail
  refine (rdo_notmine (u := u) (by omega) (by omega) HO7.out).mono ?_
  rintro e w8 ⟨rfl, ho, t8⟩
  have tA : Touch w8 (w8.alloc (.cells #[.int .u64 0, .bool false, .int .i64 0] 36)) [] := (Touch.refl w8 []).alloc _
  have hat := HA7.out.keep (t8.trans tA (by simp)) (by simp; exact hpb)
  have hq := HQ7.out.touch (t8.trans tA (by simp)) HQB.out
  have an := ans_cells (heap_alloc_new w8 (.cells #[.int .u64 0, .bool false, .int .i64 0] 36))
  obtain ⟨a0, a1, a2⟩ := an
  have hv3 := SRow.keepB HV3.out (t8.trans tA (by simp)) (fun _ g hg hs => by have := HF3.out g hg; have := HB5.out; simp at hs; omega)
  have hv1 := SRow.keepB HV1.out (t8.trans tA (by simp)) (fun _ g hg hs => by have := HF1.out g hg; have := HB5.out; simp at hs; omega)
  have ho' := ho.touch tA (by simp)
  have HO9 : Hid _ := ho'
  have HA9 : Hid _ := hat
  have HQ9 : Hid _ := hq
  have HV9 : Hid _ := hv3
  have HW9 : Hid _ := hv1
  have HAN : Hid _ := heap_alloc_new w8 (.cells #[.int .u64 0, .bool false, .int .i64 0] 36)
  clear b0 b1 b2 hat hq ho t8 tA HA7 HO7 HQ7 HQB hv3 hv1 HV3 HV1 HF3 HF1 ho' HB5
  obtain ⟨b0, b1, b2⟩ := HA9.out.box.cells
  go_wp2_with fail
  generalize hX : w8.alloc (.cells #[.int .u64 0, .bool false, .int .i64 0] 36) = X at *
  have hX' := hX
  clear hX hX' a0 a1 a2 b0 b1 b2
  refine (rshape_any HO9.out).mono ?_
  rintro e w9 ⟨av, ms, cs, rfl, t9⟩
  have tS : Touch w9 (w9.alloc (.cells #[.int .i64 (-1), .int .i64 0, .int .i64 0, .slice av ms cs] 50)) [] := (Touch.refl w9 []).alloc _
  have t10 : Touch X (w9.alloc (.cells #[.int .i64 (-1), .int .i64 0, .int .i64 0, .slice av ms cs] 50)) [] := t9.trans tS (by simp)
  obtain ⟨⟨c0, c1, c2, c3⟩, _⟩ := shp_cells (heap_alloc_new w9 (.cells #[.int .i64 (-1), .int .i64 0, .int .i64 0, .slice av ms cs] 50))
  have hat := HA9.out.keep t10 (by simp)
  obtain ⟨b0, b1, b2⟩ := hat.box.cells
  have hq := HQ9.out.touch t10 (by simp)
  have q0 := hq.cell 0
  have q1 := hq.cell 1
  have q2 := hq.cell 2
  have q8 := hq.cell 8
  simp only [outA, List.getElem?_toArray, List.getElem?_cons_zero, List.getElem?_cons_succ] at q0 q1 q2 q8
  have hv3 := SRow.keep HV9.out t10 (by simp)
  have hR3 : h.length = 3 := HR3.out
  have hR4 := HR4.out
  obtain ⟨gh, offh, rfl, _, ch⟩ := hv3.at 2 (by omega)
  have h2 := ch 0 (by omega)
  have h2' : (w9.alloc (.cells #[.int .i64 (-1), .int .i64 0, .int .i64 0, .slice av ms cs] 50)).cell? ⟨gh, offh + 2, none⟩ = some (.int .u64 (numV 0)) := by
    rw [← hR4]
    have e : h.getD 2 0 = h[2]'(by omega) := by rw [List.getD_eq_getElem?_getD, List.getElem?_eq_getElem (by omega)]; rfl
    rw [e]
    exact h2
  clear h2
  obtain ⟨a0, a1, a2⟩ := ans_cells ((t10.block _ (lt_of_heap HAN.out) (by simp)).trans HAN.out)
  have hv1 := SRow.keep HW9.out t10 (by simp)
  obtain ⟨gs, offs, rfl, _, cs1⟩ := SRow.at (l := [_]) hv1 0 (by simp)
  have s1 := cs1 0 (by omega)
  simp only [Nat.zero_mul, Nat.add_zero] at s1
  rw [hR3] at q8
  have HT : Hid _ := hat.t
  clear hat hq hv3 ch tS t9 t10 HA9 HQ9 HV9 HW9 HAN HO9 hv1 cs1
  go_wp2_with fail
  generalize w9.alloc (.cells #[.int .i64 (-1), .int .i64 0, .int .i64 0, .slice av ms cs] 50) = Y at *
  refine (HIN.out (0) (by omega) (by omega) _).out.mono ?_
  rintro e _ ⟨rfl, rfl⟩
  clear HIN
  go_wp2_with fail
  go_quiet (fail)
  go_wp2
  go_ret
  exact ⟨rfl, HT.out.drewN _⟩

set_option maxRecDepth 100000 in
set_option maxHeartbeats 8000000 in
theorem lm_D (k x y : Int) (k0 : 0 ≤ k) (k1 : k ≤ 255) (x0 : 0 ≤ x) (x1 : x ≤ 255) (y0 : 0 ≤ y) (y1 : y ≤ 255) (hj : k % 4 = 1) (hc : y % 5 = x % 4 + 1) (w : World) :
    Calls Try.prog 3 #[.int .u8 k, .int .u8 x, .int .u8 y] w fun e w' => e = .returned (.bool true) ∧ Touch w w' [] := by
  obtain ⟨u, hu⟩ : ∃ u, u = x % 4 := ⟨_, rfl⟩
  obtain ⟨n, hn⟩ : ∃ n, n = y % 5 := ⟨_, rfl⟩
  obtain ⟨m, hm⟩ : ∃ m, m = n - 1 := ⟨_, rfl⟩
  rw [← hn, ← hu] at hc
  have u0 : 0 ≤ u := by omega
  have u1 : u < 4 := by omega
  have n0 : 0 ≤ n := by omega
  have n1 : n < 5 := by omega
  have hr2 : x.tmod 4 = u := by rw [hu, Int.tmod_eq_emod_of_nonneg x0]
  have hr3 : y.tmod 5 = n := by rw [hn, Int.tmod_eq_emod_of_nonneg y0]
  have hw1 : IntKind.i64.wrap x = x := by rw [IntKind.wrap_i64]; omega
  have hw2 : IntKind.i64.wrap y = y := by rw [IntKind.wrap_i64]; omega
  have hw3 : IntKind.i64.wrap u = u := by rw [IntKind.wrap_i64]; omega
  have hw4 : IntKind.i64.wrap n = n := by rw [IntKind.wrap_i64]; omega
  have H1 : HidC _ _ _ _ _ := ⟨lone_any k 2 u k0 k1 (by omega) (by omega) u0 u1 w⟩
  rw [hj] at H1
  unfold OneP at H1
  have hrun := lm_run 1 u n (by omega) (by omega) u0 u1 n0 n1
  have hblk := lm_blk 1 u n (by omega) (by omega) u0 u1 n0 n1
  have hmu : m = u := by omega
  have hwm : IntKind.i64.wrap (n - 1) = u := by rw [IntKind.wrap_i64]; omega
  have hgt : decide (n > 0) = true := decide_eq_true (by omega)
  have hgt2 : decide (0 < n) = true := decide_eq_true (by omega)
  have m0 : 0 ≤ m := by omega
  have m1 : m < 4 := by omega
  rw [if_neg (by omega)] at hrun
  obtain ⟨hR1, hR2, hR3, hR4, hR5⟩ := hrun
  have hW : lmW 1 u n = numV 0 := by unfold lmW; rw [if_neg (by omega), if_pos rfl, if_pos hc]
  have hS : lmS 1 u n = [4607182418800017408] := by unfold lmS; rw [if_pos rfl, if_pos hc]
  rw [hW] at hR4
  rw [hS] at hR5
  clear hW hS
  generalize lmR 1 u n = R at *
  generalize oneL 1 2 u = L at *
  obtain ⟨r1, ⟨pc, st, l0, l1, l2, l3, ou, fu⟩, h⟩ := R
  simp only at hR1 hR2 hR3 hR4 hR5
  subst hR1 hR2 hR5
  have HR3 : Hid _ := hR3
  have HR4 : Hid _ := hR4
  clear hR3 hR4
  have HBK : Hid _ := hblk
  have HIN : Hid (∀ m : Int, -100 ≤ m → m ≤ 100 → ∀ W, HidC Try.prog 8 #[.int .i64 m] W (fun e w' => e = .returned (.tuple #[.int .u64 (numV m), .bool true]) ∧ W = w')) := fun m a b W => ⟨rint_ok m (by omega) (by omega) W⟩
  clear hblk hj hu hn hm hc
  go_enter Try.func3, Try.ntmps3
  go_wp2_with fail
  refine H1.out.mono ?_
  rintro e w1 ⟨ao, cap, rfl, hin, s1⟩
  have hat := LmAt.new (c := 2) (u := u) hin s1
  clear hin s1 H1
  generalize hp : w1.heap.size = p at *
  obtain ⟨b0, b1, b2⟩ := hat.box.cells
  have HA1 : Hid _ := hat
  clear hat
  go_wp2_with fail
  generalize w1.alloc (.cells #[.int .u8 2, .int .i64 u, .int .u64 0] 27) = Q1 at *
  refine (llive_any _).mono ?_
  rintro e w2 ⟨rfl, t2⟩
  have hat := HA1.out.keep t2 (by simp)
  clear b0 b1 b2 t2 HA1
  obtain ⟨b0, b1, b2⟩ := hat.box.cells
  have HA2 : Hid _ := hat
  clear hat
  go_wp2_with fail
  refine (rnew_mutex _).mono ?_
  rintro e w3 ⟨b, rfl, ho, hb, t3⟩
  have hat := HA2.out.keep t3 (by simp)
  have hpb : p < b := Nat.lt_of_lt_of_le HA2.out.lt hb
  clear b0 b1 b2 t3 HA2 hb
  obtain ⟨b0, b1, b2⟩ := hat.box.cells
  have HA3 : Hid _ := hat
  have HO3 : Hid _ := ho
  clear hat ho
  go_wp2_with fail
  refine (rdo_lock (u := u) (by omega) HO3.out).mono ?_
  rintro e w4 ⟨rfl, ho, t4⟩
  have hat := HA3.out.keep t4 (by simp; exact hpb)
  clear b0 b1 b2 t4 HA3 HO3
  obtain ⟨b0, b1, b2⟩ := hat.box.cells
  have HA4 : Hid _ := hat
  have HO4 : Hid _ := ho
  clear hat ho
  go_wp2_with fail
  refine (HIN.out n (by omega) (by omega) _).out.mono ?_
  rintro e _ ⟨rfl, rfl⟩
  have hat := HA4.out.keep ((Touch.refl w4 []).alloc (.cells #[.int .u64 0, .int .u64 0, .int .u64 (numV n)] 25)) (by simp)
  have ho := HO4.out.touch ((Touch.refl w4 []).alloc (.cells #[.int .u64 0, .int .u64 0, .int .u64 (numV n)] 25)) (by simp)
  have hbk := HBK.out (w4.alloc (.cells #[.int .u64 0, .int .u64 0, .int .u64 (numV n)] 25)) ao cap (some ⟨w4.heap.size, 0, none⟩) 3 hat.ins (row3 w4 0 0 (numV n))
  have HC5 : HidC _ _ _ _ _ := hbk
  have HA5 : Hid _ := hat
  have HO5 : Hid _ := ho
  clear b0 b1 b2 hat ho hbk HA4 HO4 HBK
  go_wp2_with fail
  generalize w4.alloc (.cells #[.int .u64 0, .int .u64 0, .int .u64 (numV n)] 25) = Q5 at *
  refine HC5.out.mono ?_
  rintro e w6 (⟨_, sa, sc, oa, oc, ha, hc6, rfl, v1, v2, v3, t6, f1, f2, f3⟩ | ⟨h0, _⟩)
  rotate_left
  · simp at h0
  simp only [List.length_cons, List.length_nil, Nat.zero_add] at v1 f1
  have hb5 := lt_of_heap HO5.out.st
  have t7 : Touch w6 (w6.alloc (.cells (outA 1 ⟨(L.length : Int), [4607182418800017408], l0, l1, l2, l3, ou, fu⟩ (.slice sa 1 sc) (.slice oa ou.length oc) (.slice ha h.length hc6) (.slice none 0 0) 0) 47)) [] := (Touch.refl w6 []).alloc _
  have hq : OutB (w6.alloc (.cells (outA 1 ⟨(L.length : Int), [4607182418800017408], l0, l1, l2, l3, ou, fu⟩ (.slice sa 1 sc) (.slice oa ou.length oc) (.slice ha h.length hc6) (.slice none 0 0) 0) 47)) w6.heap.size (outA 1 ⟨(L.length : Int), [4607182418800017408], l0, l1, l2, l3, ou, fu⟩ (.slice sa 1 sc) (.slice oa ou.length oc) (.slice ha h.length hc6) (.slice none 0 0) 0) := ⟨heap_alloc_new w6 _⟩
  have hat := HA5.out.keep (t6.trans t7 (by simp)) (by simp)
  have ho := HO5.out.touch (t6.trans t7 (by simp)) (by simp)
  have hqb : w6.heap.size ∉ [b] := by have := t6.size; simp; omega
  have HV3 : Hid _ := frn_keep v3 f3 t7 (by simp)
  have HV1 : Hid _ := frn_keep v1 f1 t7 (by simp)
  have HF3 : Hid _ := f3
  have HF1 : Hid _ := f1
  have HB5 : Hid (b < Q5.heap.size) := hb5
  obtain ⟨b0, b1, b2⟩ := hat.box.cells
  simp only [outA] at b0 b1 b2
  have HA7 : Hid _ := hat
  have HO7 : Hid _ := ho
  have HQ7 : Hid _ := hq
  have HQB : Hid _ := hqb
  clear hat ho hq hqb t7 t6 v1 v2 v3 f1 f2 f3 hb5 HC5 HA5 HO5
  go_wp2_with fail
  refine (rdo_mine (u := u) (by omega) HO7.out).mono ?_
  rintro e w8 ⟨rfl, ho, t8⟩
  have tA : Touch w8 (w8.alloc (.cells #[.int .u64 4607182418800017408, .bool false, .int .i64 0] 36)) [] := (Touch.refl w8 []).alloc _
  have hat := HA7.out.keep (t8.trans tA (by simp)) (by simp; exact hpb)
  have hq := HQ7.out.touch (t8.trans tA (by simp)) HQB.out
  have an := ans_cells (heap_alloc_new w8 (.cells #[.int .u64 4607182418800017408, .bool false, .int .i64 0] 36))
  obtain ⟨a0, a1, a2⟩ := an
  have hv3 := SRow.keepB HV3.out (t8.trans tA (by simp)) (fun _ g hg hs => by have := HF3.out g hg; have := HB5.out; simp at hs; omega)
  have hv1 := SRow.keepB HV1.out (t8.trans tA (by simp)) (fun _ g hg hs => by have := HF1.out g hg; have := HB5.out; simp at hs; omega)
  have ho' := ho.touch tA (by simp)
  have HO9 : Hid _ := ho'
  have HA9 : Hid _ := hat
  have HQ9 : Hid _ := hq
  have HV9 : Hid _ := hv3
  have HW9 : Hid _ := hv1
  have HAN : Hid _ := heap_alloc_new w8 (.cells #[.int .u64 4607182418800017408, .bool false, .int .i64 0] 36)
  clear b0 b1 b2 hat hq ho t8 tA HA7 HO7 HQ7 HQB hv3 hv1 HV3 HV1 HF3 HF1 ho' HB5
  obtain ⟨b0, b1, b2⟩ := HA9.out.box.cells
  go_wp2_with fail
  generalize hX : w8.alloc (.cells #[.int .u64 4607182418800017408, .bool false, .int .i64 0] 36) = X at *
  have hX' := hX
  clear hX hX' a0 a1 a2 b0 b1 b2
  refine (rshape_any HO9.out).mono ?_
  rintro e w9 ⟨av, ms, cs, rfl, t9⟩
  have tS : Touch w9 (w9.alloc (.cells #[.int .i64 (-1), .int .i64 0, .int .i64 0, .slice av ms cs] 50)) [] := (Touch.refl w9 []).alloc _
  have t10 : Touch X (w9.alloc (.cells #[.int .i64 (-1), .int .i64 0, .int .i64 0, .slice av ms cs] 50)) [] := t9.trans tS (by simp)
  obtain ⟨⟨c0, c1, c2, c3⟩, _⟩ := shp_cells (heap_alloc_new w9 (.cells #[.int .i64 (-1), .int .i64 0, .int .i64 0, .slice av ms cs] 50))
  have hat := HA9.out.keep t10 (by simp)
  obtain ⟨b0, b1, b2⟩ := hat.box.cells
  have hq := HQ9.out.touch t10 (by simp)
  have q0 := hq.cell 0
  have q1 := hq.cell 1
  have q2 := hq.cell 2
  have q8 := hq.cell 8
  simp only [outA, List.getElem?_toArray, List.getElem?_cons_zero, List.getElem?_cons_succ] at q0 q1 q2 q8
  have hv3 := SRow.keep HV9.out t10 (by simp)
  have hR3 : h.length = 3 := HR3.out
  have hR4 := HR4.out
  obtain ⟨gh, offh, rfl, _, ch⟩ := hv3.at 2 (by omega)
  have h2 := ch 0 (by omega)
  have h2' : (w9.alloc (.cells #[.int .i64 (-1), .int .i64 0, .int .i64 0, .slice av ms cs] 50)).cell? ⟨gh, offh + 2, none⟩ = some (.int .u64 (numV 0)) := by
    rw [← hR4]
    have e : h.getD 2 0 = h[2]'(by omega) := by rw [List.getD_eq_getElem?_getD, List.getElem?_eq_getElem (by omega)]; rfl
    rw [e]
    exact h2
  clear h2
  obtain ⟨a0, a1, a2⟩ := ans_cells ((t10.block _ (lt_of_heap HAN.out) (by simp)).trans HAN.out)
  have hv1 := SRow.keep HW9.out t10 (by simp)
  obtain ⟨gs, offs, rfl, _, cs1⟩ := SRow.at (l := [_]) hv1 0 (by simp)
  have s1 := cs1 0 (by omega)
  simp only [Nat.zero_mul, Nat.add_zero] at s1
  rw [hR3] at q8
  have HT : Hid _ := hat.t
  clear hat hq hv3 ch tS t9 t10 HA9 HQ9 HV9 HW9 HAN HO9 hv1 cs1
  go_wp2_with fail
  generalize w9.alloc (.cells #[.int .i64 (-1), .int .i64 0, .int .i64 0, .slice av ms cs] 50) = Y at *
  refine (HIN.out (0) (by omega) (by omega) _).out.mono ?_
  rintro e _ ⟨rfl, rfl⟩
  clear HIN
  go_wp2_with fail
  go_quiet (fail)
  go_wp2
  go_ret
  exact ⟨rfl, HT.out.drewN _⟩

set_option maxRecDepth 100000 in
set_option maxHeartbeats 8000000 in
theorem lm_E (k x y : Int) (k0 : 0 ≤ k) (k1 : k ≤ 255) (x0 : 0 ≤ x) (x1 : x ≤ 255) (y0 : 0 ≤ y) (y1 : y ≤ 255) (hj : k % 4 = 1) (hc : 0 < y % 5) (hc2 : y % 5 ≠ x % 4 + 1) (w : World) :
    Calls Try.prog 3 #[.int .u8 k, .int .u8 x, .int .u8 y] w fun e w' => e = .returned (.bool true) ∧ Touch w w' [] := by
  obtain ⟨u, hu⟩ : ∃ u, u = x % 4 := ⟨_, rfl⟩
  obtain ⟨n, hn⟩ : ∃ n, n = y % 5 := ⟨_, rfl⟩
  obtain ⟨m, hm⟩ : ∃ m, m = n - 1 := ⟨_, rfl⟩
  rw [← hn] at hc
  rw [← hn, ← hu] at hc2
  have u0 : 0 ≤ u := by omega
  have u1 : u < 4 := by omega
  have n0 : 0 ≤ n := by omega
  have n1 : n < 5 := by omega
  have hr2 : x.tmod 4 = u := by rw [hu, Int.tmod_eq_emod_of_nonneg x0]
  have hr3 : y.tmod 5 = n := by rw [hn, Int.tmod_eq_emod_of_nonneg y0]
  have hw1 : IntKind.i64.wrap x = x := by rw [IntKind.wrap_i64]; omega
  have hw2 : IntKind.i64.wrap y = y := by rw [IntKind.wrap_i64]; omega
  have hw3 : IntKind.i64.wrap u = u := by rw [IntKind.wrap_i64]; omega
  have hw4 : IntKind.i64.wrap n = n := by rw [IntKind.wrap_i64]; omega
  have H1 : HidC _ _ _ _ _ := ⟨lone_any k 2 u k0 k1 (by omega) (by omega) u0 u1 w⟩
  rw [hj] at H1
  unfold OneP at H1
  have hrun := lm_run 1 u n (by omega) (by omega) u0 u1 n0 n1
  have hblk := lm_blk 1 u n (by omega) (by omega) u0 u1 n0 n1
  have hwm : IntKind.i64.wrap (n - 1) = m := by rw [IntKind.wrap_i64]; omega
  have hgt : decide (n > 0) = true := decide_eq_true (by omega)
  have hgt2 : decide (0 < n) = true := decide_eq_true (by omega)
  have m0 : 0 ≤ m := by omega
  have m1 : m < 4 := by omega
  have mu : m ≠ u := by omega
  have e1 : IntKind.i64.wrap (m + 1) = n := by rw [IntKind.wrap_i64]; omega
  rw [if_neg (by omega)] at hrun
  obtain ⟨hR1, hR2, hR3, hR4, hR5⟩ := hrun
  have hW : lmW 1 u n = numV n := by unfold lmW; rw [if_neg (by omega), if_pos rfl, if_neg hc2]
  have hS : lmS 1 u n = [0] := by unfold lmS; rw [if_pos rfl, if_neg hc2]
  rw [hW] at hR4
  rw [hS] at hR5
  clear hW hS
  generalize lmR 1 u n = R at *
  generalize oneL 1 2 u = L at *
  obtain ⟨r1, ⟨pc, st, l0, l1, l2, l3, ou, fu⟩, h⟩ := R
  simp only at hR1 hR2 hR3 hR4 hR5
  subst hR1 hR2 hR5
  have HR3 : Hid _ := hR3
  have HR4 : Hid _ := hR4
  clear hR3 hR4
  have HBK : Hid _ := hblk
  have HIN : Hid (∀ m : Int, -100 ≤ m → m ≤ 100 → ∀ W, HidC Try.prog 8 #[.int .i64 m] W (fun e w' => e = .returned (.tuple #[.int .u64 (numV m), .bool true]) ∧ W = w')) := fun m a b W => ⟨rint_ok m (by omega) (by omega) W⟩
  clear hblk hj hu hn hm hc
  go_enter Try.func3, Try.ntmps3
  go_wp2_with fail
  refine H1.out.mono ?_
  rintro e w1 ⟨ao, cap, rfl, hin, s1⟩
  have hat := LmAt.new (c := 2) (u := u) hin s1
  clear hin s1 H1
  generalize hp : w1.heap.size = p at *
  obtain ⟨b0, b1, b2⟩ := hat.box.cells
  have HA1 : Hid _ := hat
  clear hat
  go_wp2_with fail
  generalize w1.alloc (.cells #[.int .u8 2, .int .i64 u, .int .u64 0] 27) = Q1 at *
  refine (llive_any _).mono ?_
  rintro e w2 ⟨rfl, t2⟩
  have hat := HA1.out.keep t2 (by simp)
  clear b0 b1 b2 t2 HA1
  obtain ⟨b0, b1, b2⟩ := hat.box.cells
  have HA2 : Hid _ := hat
  clear hat
  go_wp2_with fail
  refine (rnew_mutex _).mono ?_
  rintro e w3 ⟨b, rfl, ho, hb, t3⟩
  have hat := HA2.out.keep t3 (by simp)
  have hpb : p < b := Nat.lt_of_lt_of_le HA2.out.lt hb
  clear b0 b1 b2 t3 HA2 hb
  obtain ⟨b0, b1, b2⟩ := hat.box.cells
  have HA3 : Hid _ := hat
  have HO3 : Hid _ := ho
  clear hat ho
  go_wp2_with fail
  refine (rdo_lock (u := m) (by omega) HO3.out).mono ?_
  rintro e w4 ⟨rfl, ho, t4⟩
  have hat := HA3.out.keep t4 (by simp; exact hpb)
  clear b0 b1 b2 t4 HA3 HO3
  obtain ⟨b0, b1, b2⟩ := hat.box.cells
  have HA4 : Hid _ := hat
  have HO4 : Hid _ := ho
  clear hat ho
  go_wp2_with fail
  refine (HIN.out n (by omega) (by omega) _).out.mono ?_
  rintro e _ ⟨rfl, rfl⟩
  have hat := HA4.out.keep ((Touch.refl w4 []).alloc (.cells #[.int .u64 0, .int .u64 0, .int .u64 (numV n)] 25)) (by simp)
  have ho := HO4.out.touch ((Touch.refl w4 []).alloc (.cells #[.int .u64 0, .int .u64 0, .int .u64 (numV n)] 25)) (by simp)
  have hbk := HBK.out (w4.alloc (.cells #[.int .u64 0, .int .u64 0, .int .u64 (numV n)] 25)) ao cap (some ⟨w4.heap.size, 0, none⟩) 3 hat.ins (row3 w4 0 0 (numV n))
  have HC5 : HidC _ _ _ _ _ := hbk
  have HA5 : Hid _ := hat
  have HO5 : Hid _ := ho
  clear b0 b1 b2 hat ho hbk HA4 HO4 HBK
  go_wp2_with fail
  generalize w4.alloc (.cells #[.int .u64 0, .int .u64 0, .int .u64 (numV n)] 25) = Q5 at *
  refine HC5.out.mono ?_
  rintro e w6 (⟨_, sa, sc, oa, oc, ha, hc6, rfl, v1, v2, v3, t6, f1, f2, f3⟩ | ⟨h0, _⟩)
  rotate_left
  · simp at h0
  simp only [List.length_cons, List.length_nil, Nat.zero_add] at v1 f1
  have hb5 := lt_of_heap HO5.out.st
  have t7 : Touch w6 (w6.alloc (.cells (outA 1 ⟨(L.length : Int), [0], l0, l1, l2, l3, ou, fu⟩ (.slice sa 1 sc) (.slice oa ou.length oc) (.slice ha h.length hc6) (.slice none 0 0) 0) 47)) [] := (Touch.refl w6 []).alloc _
  have hq : OutB (w6.alloc (.cells (outA 1 ⟨(L.length : Int), [0], l0, l1, l2, l3, ou, fu⟩ (.slice sa 1 sc) (.slice oa ou.length oc) (.slice ha h.length hc6) (.slice none 0 0) 0) 47)) w6.heap.size (outA 1 ⟨(L.length : Int), [0], l0, l1, l2, l3, ou, fu⟩ (.slice sa 1 sc) (.slice oa ou.length oc) (.slice ha h.length hc6) (.slice none 0 0) 0) := ⟨heap_alloc_new w6 _⟩
  have hat := HA5.out.keep (t6.trans t7 (by simp)) (by simp)
  have ho := HO5.out.touch (t6.trans t7 (by simp)) (by simp)
  have hqb : w6.heap.size ∉ [b] := by have := t6.size; simp; omega
  have HV3 : Hid _ := frn_keep v3 f3 t7 (by simp)
  have HV1 : Hid _ := frn_keep v1 f1 t7 (by simp)
  have HF3 : Hid _ := f3
  have HF1 : Hid _ := f1
  have HB5 : Hid (b < Q5.heap.size) := hb5
  obtain ⟨b0, b1, b2⟩ := hat.box.cells
  simp only [outA] at b0 b1 b2
  have HA7 : Hid _ := hat
  have HO7 : Hid _ := ho
  have HQ7 : Hid _ := hq
  have HQB : Hid _ := hqb
  clear hat ho hq hqb t7 t6 v1 v2 v3 f1 f2 f3 hb5 HC5 HA5 HO5
  go_wp2_with fail
  refine (rdo_notmine (u := u) mu (by omega) HO7.out).mono ?_
  rintro e w8 ⟨rfl, ho, t8⟩
  have tA : Touch w8 (w8.alloc (.cells #[.int .u64 0, .bool false, .int .i64 0] 36)) [] := (Touch.refl w8 []).alloc _
  have hat := HA7.out.keep (t8.trans tA (by simp)) (by simp; exact hpb)
  have hq := HQ7.out.touch (t8.trans tA (by simp)) HQB.out
  have an := ans_cells (heap_alloc_new w8 (.cells #[.int .u64 0, .bool false, .int .i64 0] 36))
  obtain ⟨a0, a1, a2⟩ := an
  have hv3 := SRow.keepB HV3.out (t8.trans tA (by simp)) (fun _ g hg hs => by have := HF3.out g hg; have := HB5.out; simp at hs; omega)
  have hv1 := SRow.keepB HV1.out (t8.trans tA (by simp)) (fun _ g hg hs => by have := HF1.out g hg; have := HB5.out; simp at hs; omega)
  have ho' := ho.touch tA (by simp)
  have HO9 : Hid _ := ho'
  have HA9 : Hid _ := hat
  have HQ9 : Hid _ := hq
  have HV9 : Hid _ := hv3
  have HW9 : Hid _ := hv1
  have HAN : Hid _ := heap_alloc_new w8 (.cells #[.int .u64 0, .bool false, .int .i64 0] 36)
  clear b0 b1 b2 hat hq ho t8 tA HA7 HO7 HQ7 HQB hv3 hv1 HV3 HV1 HF3 HF1 ho' HB5
  obtain ⟨b0, b1, b2⟩ := HA9.out.box.cells
  go_wp2_with fail
  generalize hX : w8.alloc (.cells #[.int .u64 0, .bool false, .int .i64 0] 36) = X at *
  have hX' := hX
  clear hX hX' a0 a1 a2 b0 b1 b2
  refine (rshape_any HO9.out).mono ?_
  rintro e w9 ⟨av, ms, cs, rfl, t9⟩
  have tS : Touch w9 (w9.alloc (.cells #[.int .i64 m, .int .i64 0, .int .i64 0, .slice av ms cs] 50)) [] := (Touch.refl w9 []).alloc _
  have t10 : Touch X (w9.alloc (.cells #[.int .i64 m, .int .i64 0, .int .i64 0, .slice av ms cs] 50)) [] := t9.trans tS (by simp)
  obtain ⟨⟨c0, c1, c2, c3⟩, _⟩ := shp_cells (heap_alloc_new w9 (.cells #[.int .i64 m, .int .i64 0, .int .i64 0, .slice av ms cs] 50))
  have hat := HA9.out.keep t10 (by simp)
  obtain ⟨b0, b1, b2⟩ := hat.box.cells
  have hq := HQ9.out.touch t10 (by simp)
  have q0 := hq.cell 0
  have q1 := hq.cell 1
  have q2 := hq.cell 2
  have q8 := hq.cell 8
  simp only [outA, List.getElem?_toArray, List.getElem?_cons_zero, List.getElem?_cons_succ] at q0 q1 q2 q8
  have hv3 := SRow.keep HV9.out t10 (by simp)
  have hR3 : h.length = 3 := HR3.out
  have hR4 := HR4.out
  obtain ⟨gh, offh, rfl, _, ch⟩ := hv3.at 2 (by omega)
  have h2 := ch 0 (by omega)
  have h2' : (w9.alloc (.cells #[.int .i64 m, .int .i64 0, .int .i64 0, .slice av ms cs] 50)).cell? ⟨gh, offh + 2, none⟩ = some (.int .u64 (numV n)) := by
    rw [← hR4]
    have e : h.getD 2 0 = h[2]'(by omega) := by rw [List.getD_eq_getElem?_getD, List.getElem?_eq_getElem (by omega)]; rfl
    rw [e]
    exact h2
  clear h2
  obtain ⟨a0, a1, a2⟩ := ans_cells ((t10.block _ (lt_of_heap HAN.out) (by simp)).trans HAN.out)
  have hv1 := SRow.keep HW9.out t10 (by simp)
  obtain ⟨gs, offs, rfl, _, cs1⟩ := SRow.at (l := [_]) hv1 0 (by simp)
  have s1 := cs1 0 (by omega)
  simp only [Nat.zero_mul, Nat.add_zero] at s1
  rw [hR3] at q8
  have HT : Hid _ := hat.t
  clear hat hq hv3 ch tS t9 t10 HA9 HQ9 HV9 HW9 HAN HO9 hv1 cs1
  go_wp2_with fail
  generalize w9.alloc (.cells #[.int .i64 m, .int .i64 0, .int .i64 0, .slice av ms cs] 50) = Y at *
  refine (HIN.out (n) (by omega) (by omega) _).out.mono ?_
  rintro e _ ⟨rfl, rfl⟩
  clear HIN
  go_wp2_with fail
  go_quiet (fail)
  go_wp2
  go_ret
  exact ⟨rfl, HT.out.drewN _⟩

set_option maxRecDepth 100000 in
set_option maxHeartbeats 8000000 in
theorem lm_F (k x y : Int) (k0 : 0 ≤ k) (k1 : k ≤ 255) (x0 : 0 ≤ x) (x1 : x ≤ 255) (y0 : 0 ≤ y) (y1 : y ≤ 255) (hj : k % 4 = 2) (hc : y % 5 = 0) (w : World) :
    Calls Try.prog 3 #[.int .u8 k, .int .u8 x, .int .u8 y] w fun e w' => e = .returned (.bool true) ∧ Touch w w' [] := by
  obtain ⟨u, hu⟩ : ∃ u, u = x % 4 := ⟨_, rfl⟩
  obtain ⟨n, hn⟩ : ∃ n, n = y % 5 := ⟨_, rfl⟩
  obtain ⟨m, hm⟩ : ∃ m, m = n - 1 := ⟨_, rfl⟩
  rw [← hn] at hc
  have u0 : 0 ≤ u := by omega
  have u1 : u < 4 := by omega
  have n0 : 0 ≤ n := by omega
  have n1 : n < 5 := by omega
  have hr2 : x.tmod 4 = u := by rw [hu, Int.tmod_eq_emod_of_nonneg x0]
  have hr3 : y.tmod 5 = n := by rw [hn, Int.tmod_eq_emod_of_nonneg y0]
  have hw1 : IntKind.i64.wrap x = x := by rw [IntKind.wrap_i64]; omega
  have hw2 : IntKind.i64.wrap y = y := by rw [IntKind.wrap_i64]; omega
  have hw3 : IntKind.i64.wrap u = u := by rw [IntKind.wrap_i64]; omega
  have hw4 : IntKind.i64.wrap n = n := by rw [IntKind.wrap_i64]; omega
  have H1 : HidC _ _ _ _ _ := ⟨lone_any k 2 u k0 k1 (by omega) (by omega) u0 u1 w⟩
  rw [hj] at H1
  unfold OneP at H1
  have hrun := lm_run 2 u n (by omega) (by omega) u0 u1 n0 n1
  have hblk := lm_blk 2 u n (by omega) (by omega) u0 u1 n0 n1
  have hn0 : n = 0 := hc
  subst hn0
  rw [if_pos (by omega)] at hrun
  generalize lmR 2 u 0 = R at *
  generalize oneL 2 2 u = L at *
  obtain ⟨r1, ⟨pc, st, l0, l1, l2, l3, ou, fu⟩, h⟩ := R
  simp only at hrun
  subst hrun
  have HBK : Hid _ := hblk
  have HIN : Hid (∀ m : Int, -100 ≤ m → m ≤ 100 → ∀ W, HidC Try.prog 8 #[.int .i64 m] W (fun e w' => e = .returned (.tuple #[.int .u64 (numV m), .bool true]) ∧ W = w')) := fun m a b W => ⟨rint_ok m (by omega) (by omega) W⟩
  clear hblk hj hu hn hm
  go_enter Try.func3, Try.ntmps3
  go_wp2_with fail
  refine H1.out.mono ?_
  rintro e w1 ⟨ao, cap, rfl, hin, s1⟩
  have hat := LmAt.new (c := 3) (u := u) hin s1
  clear hin s1 H1
  generalize hp : w1.heap.size = p at *
  obtain ⟨b0, b1, b2⟩ := hat.box.cells
  have HA1 : Hid _ := hat
  clear hat
  go_wp2_with fail
  generalize w1.alloc (.cells #[.int .u8 3, .int .i64 u, .int .u64 0] 27) = Q1 at *
  refine (llive_any _).mono ?_
  rintro e w2 ⟨rfl, t2⟩
  have hat := HA1.out.keep t2 (by simp)
  clear b0 b1 b2 t2 HA1
  obtain ⟨b0, b1, b2⟩ := hat.box.cells
  have HA2 : Hid _ := hat
  clear hat
  go_wp2_with fail
  refine (rnew_mutex _).mono ?_
  rintro e w3 ⟨b, rfl, ho, hb, t3⟩
  have hat := HA2.out.keep t3 (by simp)
  have hpb : p < b := Nat.lt_of_lt_of_le HA2.out.lt hb
  clear b0 b1 b2 t3 HA2 hb
  obtain ⟨b0, b1, b2⟩ := hat.box.cells
  have HA3 : Hid _ := hat
  have HO3 : Hid _ := ho
  clear hat ho
  go_wp2_with fail
  refine (rnew_sem 0 (by omega) (by omega) _).mono ?_
  rintro e w4 ⟨b', rfl, ho, hb, t4⟩
  have hat := HA3.out.keep t4 (by simp)
  have hpb' : p < b' := Nat.lt_of_lt_of_le HA3.out.lt hb
  clear b0 b1 b2 t4 HA3 hb HO3 hpb
  obtain ⟨b0, b1, b2⟩ := hat.box.cells
  have HA4 : Hid _ := hat
  have HO4 : Hid _ := ho
  have hpb := hpb'
  clear hat ho hpb'
  generalize b' = b at *
  go_wp2_with fail
  refine (HIN.out 0 (by omega) (by omega) _).out.mono ?_
  rintro e _ ⟨rfl, rfl⟩
  have hat := HA4.out.keep ((Touch.refl w4 []).alloc (.cells #[.int .u64 0, .int .u64 0, .int .u64 (numV 0)] 25)) (by simp)
  have ho := HO4.out.touch ((Touch.refl w4 []).alloc (.cells #[.int .u64 0, .int .u64 0, .int .u64 (numV 0)] 25)) (by simp)
  have hbk := HBK.out (w4.alloc (.cells #[.int .u64 0, .int .u64 0, .int .u64 (numV 0)] 25)) ao cap (some ⟨w4.heap.size, 0, none⟩) 3 hat.ins (row3 w4 0 0 (numV 0))
  have HC5 : HidC _ _ _ _ _ := hbk
  have HA5 : Hid _ := hat
  have HO5 : Hid _ := ho
  clear b0 b1 b2 hat ho hbk HA4 HO4 HBK
  go_wp2_with fail
  generalize w4.alloc (.cells #[.int .u64 0, .int .u64 0, .int .u64 (numV 0)] 25) = Q5 at *
  refine HC5.out.mono ?_
  rintro e w6 (⟨h0, _⟩ | ⟨_, sa, sc, oa, oc, ha, hc6, rfl, v1, v2, v3, t6, f1, f2, f3⟩)
  · simp at h0
  have hb5 := lt_of_heap HO5.out.st
  have t7 : Touch w6 (w6.alloc (.cells (outA 2 zWD (.slice sa 0 sc) (.slice oa 0 oc) (.slice ha 3 hc6) (.slice none 0 0) 0) 47)) [] := (Touch.refl w6 []).alloc _
  have hq : OutB (w6.alloc (.cells (outA 2 zWD (.slice sa 0 sc) (.slice oa 0 oc) (.slice ha 3 hc6) (.slice none 0 0) 0) 47)) w6.heap.size (outA 2 zWD (.slice sa 0 sc) (.slice oa 0 oc) (.slice ha 3 hc6) (.slice none 0 0) 0) := ⟨heap_alloc_new w6 _⟩
  have hat := HA5.out.keep (t6.trans t7 (by simp)) (by simp)
  have ho := HO5.out.touch (t6.trans t7 (by simp)) (by simp)
  have hqb : w6.heap.size ∉ [b] := by have := t6.size; simp; omega
  obtain ⟨b0, b1, b2⟩ := hat.box.cells
  simp only [outA] at b0 b1 b2
  have HA7 : Hid _ := hat
  have HO7 : Hid _ := ho
  have HQ7 : Hid _ := hq
  have HQB : Hid _ := hqb
  clear hat ho hq hqb t7 t6 v1 v2 v3 f1 f2 f3 hb5 HC5 HA5 HO5
  go_wp2_with fail
  refine (rdo_empty (u := u) (by omega) HO7.out).mono ?_
  rintro e w8 ⟨rfl, ho, t8⟩
  have tA : Touch w8 (w8.alloc (.cells #[.int .u64 0, .bool true, .int .i64 0] 36)) [] := (Touch.refl w8 []).alloc _
  have hat := HA7.out.keep (t8.trans tA (by simp)) (by simp; exact hpb)
  have hq := HQ7.out.touch (t8.trans tA (by simp)) HQB.out
  have an := ans_cells (heap_alloc_new w8 (.cells #[.int .u64 0, .bool true, .int .i64 0] 36))
  obtain ⟨a0, a1, a2⟩ := an
  have q0 := hq.cell 0
  simp only [outA, List.getElem?_toArray, List.getElem?_cons_zero, List.getElem?_cons_succ] at q0
  have HT : Hid _ := hat.t
  clear b0 b1 b2 hat hq ho t8 tA HA7 HO7 HQ7 HQB
  go_wp2
  go_ret
  exact ⟨rfl, HT.out⟩

set_option maxRecDepth 100000 in
set_option maxHeartbeats 8000000 in
theorem lm_G (k x y : Int) (k0 : 0 ≤ k) (k1 : k ≤ 255) (x0 : 0 ≤ x) (x1 : x ≤ 255) (y0 : 0 ≤ y) (y1 : y ≤ 255) (hj : k % 4 = 2) (hc : 0 < y % 5) (w : World) :
    Calls Try.prog 3 #[.int .u8 k, .int .u8 x, .int .u8 y] w fun e w' => e = .returned (.bool true) ∧ Touch w w' [] := by
  obtain ⟨u, hu⟩ : ∃ u, u = x % 4 := ⟨_, rfl⟩
  obtain ⟨n, hn⟩ : ∃ n, n = y % 5 := ⟨_, rfl⟩
  obtain ⟨m, hm⟩ : ∃ m, m = n - 1 := ⟨_, rfl⟩
  rw [← hn] at hc
  have u0 : 0 ≤ u := by omega
  have u1 : u < 4 := by omega
  have n0 : 0 ≤ n := by omega
  have n1 : n < 5 := by omega
  have hr2 : x.tmod 4 = u := by rw [hu, Int.tmod_eq_emod_of_nonneg x0]
  have hr3 : y.tmod 5 = n := by rw [hn, Int.tmod_eq_emod_of_nonneg y0]
  have hw1 : IntKind.i64.wrap x = x := by rw [IntKind.wrap_i64]; omega
  have hw2 : IntKind.i64.wrap y = y := by rw [IntKind.wrap_i64]; omega
  have hw3 : IntKind.i64.wrap u = u := by rw [IntKind.wrap_i64]; omega
  have hw4 : IntKind.i64.wrap n = n := by rw [IntKind.wrap_i64]; omega
  have H1 : HidC _ _ _ _ _ := ⟨lone_any k 2 u k0 k1 (by omega) (by omega) u0 u1 w⟩
  rw [hj] at H1
  unfold OneP at H1
  have hrun := lm_run 2 u n (by omega) (by omega) u0 u1 n0 n1
  have hblk := lm_blk 2 u n (by omega) (by omega) u0 u1 n0 n1
  have np : 0 < n := hc
  rw [if_neg (by omega)] at hrun
  obtain ⟨hR1, hR2, hR3, hR4, hR5⟩ := hrun
  have hW : lmW 2 u n = numV (n - 1) := by unfold lmW; rfl
  have hS : lmS 2 u n = [] := by unfold lmS; rfl
  rw [hW] at hR4
  rw [hS] at hR5
  clear hW hS
  generalize lmR 2 u n = R at *
  generalize oneL 2 2 u = L at *
  obtain ⟨r1, ⟨pc, st, l0, l1, l2, l3, ou, fu⟩, h⟩ := R
  simp only at hR1 hR2 hR3 hR4 hR5
  subst hR1 hR2 hR5
  have HR3 : Hid _ := hR3
  have HR4 : Hid _ := hR4
  clear hR3 hR4
  have HBK : Hid _ := hblk
  have HIN : Hid (∀ m : Int, -100 ≤ m → m ≤ 100 → ∀ W, HidC Try.prog 8 #[.int .i64 m] W (fun e w' => e = .returned (.tuple #[.int .u64 (numV m), .bool true]) ∧ W = w')) := fun m a b W => ⟨rint_ok m (by omega) (by omega) W⟩
  clear hblk hj hu hn hm hc
  go_enter Try.func3, Try.ntmps3
  go_wp2_with fail
  refine H1.out.mono ?_
  rintro e w1 ⟨ao, cap, rfl, hin, s1⟩
  have hat := LmAt.new (c := 3) (u := u) hin s1
  clear hin s1 H1
  generalize hp : w1.heap.size = p at *
  obtain ⟨b0, b1, b2⟩ := hat.box.cells
  have HA1 : Hid _ := hat
  clear hat
  go_wp2_with fail
  generalize w1.alloc (.cells #[.int .u8 3, .int .i64 u, .int .u64 0] 27) = Q1 at *
  refine (llive_any _).mono ?_
  rintro e w2 ⟨rfl, t2⟩
  have hat := HA1.out.keep t2 (by simp)
  clear b0 b1 b2 t2 HA1
  obtain ⟨b0, b1, b2⟩ := hat.box.cells
  have HA2 : Hid _ := hat
  clear hat
  go_wp2_with fail
  refine (rnew_mutex _).mono ?_
  rintro e w3 ⟨b, rfl, ho, hb, t3⟩
  have hat := HA2.out.keep t3 (by simp)
  have hpb : p < b := Nat.lt_of_lt_of_le HA2.out.lt hb
  clear b0 b1 b2 t3 HA2 hb
  obtain ⟨b0, b1, b2⟩ := hat.box.cells
  have HA3 : Hid _ := hat
  have HO3 : Hid _ := ho
  clear hat ho
  go_wp2_with fail
  refine (rnew_sem n (by omega) (by omega) _).mono ?_
  rintro e w4 ⟨b', rfl, ho, hb, t4⟩
  have hat := HA3.out.keep t4 (by simp)
  have hpb' : p < b' := Nat.lt_of_lt_of_le HA3.out.lt hb
  clear b0 b1 b2 t4 HA3 hb HO3 hpb
  obtain ⟨b0, b1, b2⟩ := hat.box.cells
  have HA4 : Hid _ := hat
  have HO4 : Hid _ := ho
  have hpb := hpb'
  clear hat ho hpb'
  generalize b' = b at *
  go_wp2_with fail
  refine (HIN.out n (by omega) (by omega) _).out.mono ?_
  rintro e _ ⟨rfl, rfl⟩
  have hat := HA4.out.keep ((Touch.refl w4 []).alloc (.cells #[.int .u64 0, .int .u64 0, .int .u64 (numV n)] 25)) (by simp)
  have ho := HO4.out.touch ((Touch.refl w4 []).alloc (.cells #[.int .u64 0, .int .u64 0, .int .u64 (numV n)] 25)) (by simp)
  have hbk := HBK.out (w4.alloc (.cells #[.int .u64 0, .int .u64 0, .int .u64 (numV n)] 25)) ao cap (some ⟨w4.heap.size, 0, none⟩) 3 hat.ins (row3 w4 0 0 (numV n))
  have HC5 : HidC _ _ _ _ _ := hbk
  have HA5 : Hid _ := hat
  have HO5 : Hid _ := ho
  clear b0 b1 b2 hat ho hbk HA4 HO4 HBK
  go_wp2_with fail
  generalize w4.alloc (.cells #[.int .u64 0, .int .u64 0, .int .u64 (numV n)] 25) = Q5 at *
  refine HC5.out.mono ?_
  rintro e w6 (⟨_, sa, sc, oa, oc, ha, hc6, rfl, v1, v2, v3, t6, f1, f2, f3⟩ | ⟨h0, _⟩)
  rotate_left
  · simp at h0
  simp only [List.length_cons, List.length_nil, Nat.zero_add] at v1 f1
  have hb5 := lt_of_heap HO5.out.st
  have t7 : Touch w6 (w6.alloc (.cells (outA 1 ⟨(L.length : Int), [], l0, l1, l2, l3, ou, fu⟩ (.slice sa 0 sc) (.slice oa ou.length oc) (.slice ha h.length hc6) (.slice none 0 0) 0) 47)) [] := (Touch.refl w6 []).alloc _
  have hq : OutB (w6.alloc (.cells (outA 1 ⟨(L.length : Int), [], l0, l1, l2, l3, ou, fu⟩ (.slice sa 0 sc) (.slice oa ou.length oc) (.slice ha h.length hc6) (.slice none 0 0) 0) 47)) w6.heap.size (outA 1 ⟨(L.length : Int), [], l0, l1, l2, l3, ou, fu⟩ (.slice sa 0 sc) (.slice oa ou.length oc) (.slice ha h.length hc6) (.slice none 0 0) 0) := ⟨heap_alloc_new w6 _⟩
  have hat := HA5.out.keep (t6.trans t7 (by simp)) (by simp)
  have ho := HO5.out.touch (t6.trans t7 (by simp)) (by simp)
  have hqb : w6.heap.size ∉ [b] := by have := t6.size; simp; omega
  have HV3 : Hid _ := frn_keep v3 f3 t7 (by simp)
  have HV1 : Hid _ := frn_keep v1 f1 t7 (by simp)
  have HF3 : Hid _ := f3
  have HF1 : Hid _ := f1
  have HB5 : Hid (b < Q5.heap.size) := hb5
  obtain ⟨b0, b1, b2⟩ := hat.box.cells
  simp only [outA] at b0 b1 b2
  have HA7 : Hid _ := hat
  have HO7 : Hid _ := ho
  have HQ7 : Hid _ := hq
  have HQB : Hid _ := hqb
  clear hat ho hq hqb t7 t6 v1 v2 v3 f1 f2 f3 hb5 HC5 HA5 HO5
  go_wp2_with fail
  refine (rdo_down (u := u) (n := n) np (by omega) (by omega) HO7.out).mono ?_
  rintro e w8 ⟨rfl, ho, t8⟩
  have tA : Touch w8 (w8.alloc (.cells #[.int .u64 4607182418800017408, .bool false, .int .i64 0] 36)) [] := (Touch.refl w8 []).alloc _
  have hat := HA7.out.keep (t8.trans tA (by simp)) (by simp; exact hpb)
  have hq := HQ7.out.touch (t8.trans tA (by simp)) HQB.out
  have an := ans_cells (heap_alloc_new w8 (.cells #[.int .u64 4607182418800017408, .bool false, .int .i64 0] 36))
  obtain ⟨a0, a1, a2⟩ := an
  have hv3 := SRow.keepB HV3.out (t8.trans tA (by simp)) (fun _ g hg hs => by have := HF3.out g hg; have := HB5.out; simp at hs; omega)
  have hv1 := SRow.keepB HV1.out (t8.trans tA (by simp)) (fun _ g hg hs => by have := HF1.out g hg; have := HB5.out; simp at hs; omega)
  have ho' := ho.touch tA (by simp)
  have HO9 : Hid _ := ho'
  have HA9 : Hid _ := hat
  have HQ9 : Hid _ := hq
  have HV9 : Hid _ := hv3
  have HW9 : Hid _ := hv1
  have HAN : Hid _ := heap_alloc_new w8 (.cells #[.int .u64 4607182418800017408, .bool false, .int .i64 0] 36)
  clear b0 b1 b2 hat hq ho t8 tA HA7 HO7 HQ7 HQB hv3 hv1 HV3 HV1 HF3 HF1 ho' HB5
  obtain ⟨b0, b1, b2⟩ := HA9.out.box.cells
  go_wp2_with fail
  generalize hX : w8.alloc (.cells #[.int .u64 4607182418800017408, .bool false, .int .i64 0] 36) = X at *
  have hX' := hX
  clear hX hX' a0 a1 a2 b0 b1 b2
  refine (rshape_any HO9.out).mono ?_
  rintro e w9 ⟨av, ms, cs, rfl, t9⟩
  have tS : Touch w9 (w9.alloc (.cells #[.int .i64 (-1), .int .i64 (n - 1), .int .i64 0, .slice av ms cs] 50)) [] := (Touch.refl w9 []).alloc _
  have t10 : Touch X (w9.alloc (.cells #[.int .i64 (-1), .int .i64 (n - 1), .int .i64 0, .slice av ms cs] 50)) [] := t9.trans tS (by simp)
  obtain ⟨⟨c0, c1, c2, c3⟩, _⟩ := shp_cells (heap_alloc_new w9 (.cells #[.int .i64 (-1), .int .i64 (n - 1), .int .i64 0, .slice av ms cs] 50))
  have hat := HA9.out.keep t10 (by simp)
  obtain ⟨b0, b1, b2⟩ := hat.box.cells
  have hq := HQ9.out.touch t10 (by simp)
  have q0 := hq.cell 0
  have q1 := hq.cell 1
  have q2 := hq.cell 2
  have q8 := hq.cell 8
  simp only [outA, List.getElem?_toArray, List.getElem?_cons_zero, List.getElem?_cons_succ] at q0 q1 q2 q8
  have hv3 := SRow.keep HV9.out t10 (by simp)
  have hR3 : h.length = 3 := HR3.out
  have hR4 := HR4.out
  obtain ⟨gh, offh, rfl, _, ch⟩ := hv3.at 2 (by omega)
  have h2 := ch 0 (by omega)
  have h2' : (w9.alloc (.cells #[.int .i64 (-1), .int .i64 (n - 1), .int .i64 0, .slice av ms cs] 50)).cell? ⟨gh, offh + 2, none⟩ = some (.int .u64 (numV (n - 1))) := by
    rw [← hR4]
    have e : h.getD 2 0 = h[2]'(by omega) := by rw [List.getD_eq_getElem?_getD, List.getElem?_eq_getElem (by omega)]; rfl
    rw [e]
    exact h2
  clear h2
  obtain ⟨a0, a1, a2⟩ := ans_cells ((t10.block _ (lt_of_heap HAN.out) (by simp)).trans HAN.out)
  rw [hR3] at q8
  have HT : Hid _ := hat.t
  clear hat hq hv3 ch tS t9 t10 HA9 HQ9 HV9 HW9 HAN HO9
  have e1 : IntKind.i64.wrap (n - 1) = n - 1 := by rw [IntKind.wrap_i64]; omega
  go_wp2_with fail
  generalize w9.alloc (.cells #[.int .i64 (-1), .int .i64 (n - 1), .int .i64 0, .slice av ms cs] 50) = Y at *
  refine (HIN.out (n - 1) (by omega) (by omega) _).out.mono ?_
  rintro e _ ⟨rfl, rfl⟩
  go_wp2_with fail
  refine (HIN.out (n - 1) (by omega) (by omega) _).out.mono ?_
  rintro e _ ⟨rfl, rfl⟩
  clear HIN
  go_wp2
  go_ret
  exact ⟨rfl, HT.out⟩

set_option maxRecDepth 100000 in
set_option maxHeartbeats 8000000 in
theorem lm_H (k x y : Int) (k0 : 0 ≤ k) (k1 : k ≤ 255) (x0 : 0 ≤ x) (x1 : x ≤ 255) (y0 : 0 ≤ y) (y1 : y ≤ 255) (hj : k % 4 = 3) (hc : True) (w : World) :
    Calls Try.prog 3 #[.int .u8 k, .int .u8 x, .int .u8 y] w fun e w' => e = .returned (.bool true) ∧ Touch w w' [] := by
  obtain ⟨u, hu⟩ : ∃ u, u = x % 4 := ⟨_, rfl⟩
  obtain ⟨n, hn⟩ : ∃ n, n = y % 5 := ⟨_, rfl⟩
  obtain ⟨m, hm⟩ : ∃ m, m = n - 1 := ⟨_, rfl⟩
  clear hc
  have u0 : 0 ≤ u := by omega
  have u1 : u < 4 := by omega
  have n0 : 0 ≤ n := by omega
  have n1 : n < 5 := by omega
  have hr2 : x.tmod 4 = u := by rw [hu, Int.tmod_eq_emod_of_nonneg x0]
  have hr3 : y.tmod 5 = n := by rw [hn, Int.tmod_eq_emod_of_nonneg y0]
  have hw1 : IntKind.i64.wrap x = x := by rw [IntKind.wrap_i64]; omega
  have hw2 : IntKind.i64.wrap y = y := by rw [IntKind.wrap_i64]; omega
  have hw3 : IntKind.i64.wrap u = u := by rw [IntKind.wrap_i64]; omega
  have hw4 : IntKind.i64.wrap n = n := by rw [IntKind.wrap_i64]; omega
  have H1 : HidC _ _ _ _ _ := ⟨lone_any k 2 u k0 k1 (by omega) (by omega) u0 u1 w⟩
  rw [hj] at H1
  unfold OneP at H1
  have hrun := lm_run 3 u n (by omega) (by omega) u0 u1 n0 n1
  have hblk := lm_blk 3 u n (by omega) (by omega) u0 u1 n0 n1
  rw [if_neg (by omega)] at hrun
  obtain ⟨hR1, hR2, hR3, hR4, hR5⟩ := hrun
  have hW : lmW 3 u n = numV (n + 1) := by unfold lmW; rfl
  have hS : lmS 3 u n = [] := by unfold lmS; rfl
  rw [hW] at hR4
  rw [hS] at hR5
  clear hW hS
  generalize lmR 3 u n = R at *
  generalize oneL 3 2 u = L at *
  obtain ⟨r1, ⟨pc, st, l0, l1, l2, l3, ou, fu⟩, h⟩ := R
  simp only at hR1 hR2 hR3 hR4 hR5
  subst hR1 hR2 hR5
  have HR3 : Hid _ := hR3
  have HR4 : Hid _ := hR4
  clear hR3 hR4
  have HBK : Hid _ := hblk
  have HIN : Hid (∀ m : Int, -100 ≤ m → m ≤ 100 → ∀ W, HidC Try.prog 8 #[.int .i64 m] W (fun e w' => e = .returned (.tuple #[.int .u64 (numV m), .bool true]) ∧ W = w')) := fun m a b W => ⟨rint_ok m (by omega) (by omega) W⟩
  clear hblk hj hu hn hm
  go_enter Try.func3, Try.ntmps3
  go_wp2_with fail
  refine H1.out.mono ?_
  rintro e w1 ⟨ao, cap, rfl, hin, s1⟩
  have hat := LmAt.new (c := 4) (u := u) hin s1
  clear hin s1 H1
  generalize hp : w1.heap.size = p at *
  obtain ⟨b0, b1, b2⟩ := hat.box.cells
  have HA1 : Hid _ := hat
  clear hat
  go_wp2_with fail
  generalize w1.alloc (.cells #[.int .u8 4, .int .i64 u, .int .u64 0] 27) = Q1 at *
  refine (llive_any _).mono ?_
  rintro e w2 ⟨rfl, t2⟩
  have hat := HA1.out.keep t2 (by simp)
  clear b0 b1 b2 t2 HA1
  obtain ⟨b0, b1, b2⟩ := hat.box.cells
  have HA2 : Hid _ := hat
  clear hat
  go_wp2_with fail
  refine (rnew_mutex _).mono ?_
  rintro e w3 ⟨b, rfl, ho, hb, t3⟩
  have hat := HA2.out.keep t3 (by simp)
  have hpb : p < b := Nat.lt_of_lt_of_le HA2.out.lt hb
  clear b0 b1 b2 t3 HA2 hb
  obtain ⟨b0, b1, b2⟩ := hat.box.cells
  have HA3 : Hid _ := hat
  have HO3 : Hid _ := ho
  clear hat ho
  go_wp2_with fail
  refine (rnew_sem n (by omega) (by omega) _).mono ?_
  rintro e w4 ⟨b', rfl, ho, hb, t4⟩
  have hat := HA3.out.keep t4 (by simp)
  have hpb' : p < b' := Nat.lt_of_lt_of_le HA3.out.lt hb
  clear b0 b1 b2 t4 HA3 hb HO3 hpb
  obtain ⟨b0, b1, b2⟩ := hat.box.cells
  have HA4 : Hid _ := hat
  have HO4 : Hid _ := ho
  have hpb := hpb'
  clear hat ho hpb'
  generalize b' = b at *
  go_wp2_with fail
  refine (HIN.out n (by omega) (by omega) _).out.mono ?_
  rintro e _ ⟨rfl, rfl⟩
  have hat := HA4.out.keep ((Touch.refl w4 []).alloc (.cells #[.int .u64 0, .int .u64 0, .int .u64 (numV n)] 25)) (by simp)
  have ho := HO4.out.touch ((Touch.refl w4 []).alloc (.cells #[.int .u64 0, .int .u64 0, .int .u64 (numV n)] 25)) (by simp)
  have hbk := HBK.out (w4.alloc (.cells #[.int .u64 0, .int .u64 0, .int .u64 (numV n)] 25)) ao cap (some ⟨w4.heap.size, 0, none⟩) 3 hat.ins (row3 w4 0 0 (numV n))
  have HC5 : HidC _ _ _ _ _ := hbk
  have HA5 : Hid _ := hat
  have HO5 : Hid _ := ho
  clear b0 b1 b2 hat ho hbk HA4 HO4 HBK
  go_wp2_with fail
  generalize w4.alloc (.cells #[.int .u64 0, .int .u64 0, .int .u64 (numV n)] 25) = Q5 at *
  refine HC5.out.mono ?_
  rintro e w6 (⟨_, sa, sc, oa, oc, ha, hc6, rfl, v1, v2, v3, t6, f1, f2, f3⟩ | ⟨h0, _⟩)
  rotate_left
  · simp at h0
  simp only [List.length_cons, List.length_nil, Nat.zero_add] at v1 f1
  have hb5 := lt_of_heap HO5.out.st
  have t7 : Touch w6 (w6.alloc (.cells (outA 1 ⟨(L.length : Int), [], l0, l1, l2, l3, ou, fu⟩ (.slice sa 0 sc) (.slice oa ou.length oc) (.slice ha h.length hc6) (.slice none 0 0) 0) 47)) [] := (Touch.refl w6 []).alloc _
  have hq : OutB (w6.alloc (.cells (outA 1 ⟨(L.length : Int), [], l0, l1, l2, l3, ou, fu⟩ (.slice sa 0 sc) (.slice oa ou.length oc) (.slice ha h.length hc6) (.slice none 0 0) 0) 47)) w6.heap.size (outA 1 ⟨(L.length : Int), [], l0, l1, l2, l3, ou, fu⟩ (.slice sa 0 sc) (.slice oa ou.length oc) (.slice ha h.length hc6) (.slice none 0 0) 0) := ⟨heap_alloc_new w6 _⟩
  have hat := HA5.out.keep (t6.trans t7 (by simp)) (by simp)
  have ho := HO5.out.touch (t6.trans t7 (by simp)) (by simp)
  have hqb : w6.heap.size ∉ [b] := by have := t6.size; simp; omega
  have HV3 : Hid _ := frn_keep v3 f3 t7 (by simp)
  have HV1 : Hid _ := frn_keep v1 f1 t7 (by simp)
  have HF3 : Hid _ := f3
  have HF1 : Hid _ := f1
  have HB5 : Hid (b < Q5.heap.size) := hb5
  obtain ⟨b0, b1, b2⟩ := hat.box.cells
  simp only [outA] at b0 b1 b2
  have HA7 : Hid _ := hat
  have HO7 : Hid _ := ho
  have HQ7 : Hid _ := hq
  have HQB : Hid _ := hqb
  clear hat ho hq hqb t7 t6 v1 v2 v3 f1 f2 f3 hb5 HC5 HA5 HO5
  go_wp2_with fail
  refine (rdo_up (u := u) (n := n) n0 (by omega) (by omega) HO7.out).mono ?_
  rintro e w8 ⟨rfl, ho, t8⟩
  have tA : Touch w8 (w8.alloc (.cells #[.int .u64 4607182418800017408, .bool false, .int .i64 0] 36)) [] := (Touch.refl w8 []).alloc _
  have hat := HA7.out.keep (t8.trans tA (by simp)) (by simp; exact hpb)
  have hq := HQ7.out.touch (t8.trans tA (by simp)) HQB.out
  have an := ans_cells (heap_alloc_new w8 (.cells #[.int .u64 4607182418800017408, .bool false, .int .i64 0] 36))
  obtain ⟨a0, a1, a2⟩ := an
  have hv3 := SRow.keepB HV3.out (t8.trans tA (by simp)) (fun _ g hg hs => by have := HF3.out g hg; have := HB5.out; simp at hs; omega)
  have hv1 := SRow.keepB HV1.out (t8.trans tA (by simp)) (fun _ g hg hs => by have := HF1.out g hg; have := HB5.out; simp at hs; omega)
  have ho' := ho.touch tA (by simp)
  have HO9 : Hid _ := ho'
  have HA9 : Hid _ := hat
  have HQ9 : Hid _ := hq
  have HV9 : Hid _ := hv3
  have HW9 : Hid _ := hv1
  have HAN : Hid _ := heap_alloc_new w8 (.cells #[.int .u64 4607182418800017408, .bool false, .int .i64 0] 36)
  clear b0 b1 b2 hat hq ho t8 tA HA7 HO7 HQ7 HQB hv3 hv1 HV3 HV1 HF3 HF1 ho' HB5
  obtain ⟨b0, b1, b2⟩ := HA9.out.box.cells
  go_wp2_with fail
  generalize hX : w8.alloc (.cells #[.int .u64 4607182418800017408, .bool false, .int .i64 0] 36) = X at *
  have hX' := hX
  clear hX hX' a0 a1 a2 b0 b1 b2
  refine (rshape_any HO9.out).mono ?_
  rintro e w9 ⟨av, ms, cs, rfl, t9⟩
  have tS : Touch w9 (w9.alloc (.cells #[.int .i64 (-1), .int .i64 (n + 1), .int .i64 0, .slice av ms cs] 50)) [] := (Touch.refl w9 []).alloc _
  have t10 : Touch X (w9.alloc (.cells #[.int .i64 (-1), .int .i64 (n + 1), .int .i64 0, .slice av ms cs] 50)) [] := t9.trans tS (by simp)
  obtain ⟨⟨c0, c1, c2, c3⟩, _⟩ := shp_cells (heap_alloc_new w9 (.cells #[.int .i64 (-1), .int .i64 (n + 1), .int .i64 0, .slice av ms cs] 50))
  have hat := HA9.out.keep t10 (by simp)
  obtain ⟨b0, b1, b2⟩ := hat.box.cells
  have hq := HQ9.out.touch t10 (by simp)
  have q0 := hq.cell 0
  have q1 := hq.cell 1
  have q2 := hq.cell 2
  have q8 := hq.cell 8
  simp only [outA, List.getElem?_toArray, List.getElem?_cons_zero, List.getElem?_cons_succ] at q0 q1 q2 q8
  have hv3 := SRow.keep HV9.out t10 (by simp)
  have hR3 : h.length = 3 := HR3.out
  have hR4 := HR4.out
  obtain ⟨gh, offh, rfl, _, ch⟩ := hv3.at 2 (by omega)
  have h2 := ch 0 (by omega)
  have h2' : (w9.alloc (.cells #[.int .i64 (-1), .int .i64 (n + 1), .int .i64 0, .slice av ms cs] 50)).cell? ⟨gh, offh + 2, none⟩ = some (.int .u64 (numV (n + 1))) := by
    rw [← hR4]
    have e : h.getD 2 0 = h[2]'(by omega) := by rw [List.getD_eq_getElem?_getD, List.getElem?_eq_getElem (by omega)]; rfl
    rw [e]
    exact h2
  clear h2
  obtain ⟨a0, a1, a2⟩ := ans_cells ((t10.block _ (lt_of_heap HAN.out) (by simp)).trans HAN.out)
  rw [hR3] at q8
  have HT : Hid _ := hat.t
  clear hat hq hv3 ch tS t9 t10 HA9 HQ9 HV9 HW9 HAN HO9
  have e1 : IntKind.i64.wrap (n + 1) = n + 1 := by rw [IntKind.wrap_i64]; omega
  go_wp2_with fail
  generalize w9.alloc (.cells #[.int .i64 (-1), .int .i64 (n + 1), .int .i64 0, .slice av ms cs] 50) = Y at *
  refine (HIN.out (n + 1) (by omega) (by omega) _).out.mono ?_
  rintro e _ ⟨rfl, rfl⟩
  go_wp2_with fail
  refine (HIN.out (n + 1) (by omega) (by omega) _).out.mono ?_
  rintro e _ ⟨rfl, rfl⟩
  clear HIN
  go_wp2
  go_ret
  exact ⟨rfl, HT.out⟩

theorem locksmean_any (k x y : Int) (k0 : 0 ≤ k) (k1 : k ≤ 255) (x0 : 0 ≤ x) (x1 : x ≤ 255) (y0 : 0 ≤ y) (y1 : y ≤ 255) (w : World) :
    Calls Try.prog 3 #[.int .u8 k, .int .u8 x, .int .u8 y] w fun e w' => e = .returned (.bool true) ∧ Touch w w' [] := by
  rcases (show k % 4 = 0 ∨ k % 4 = 1 ∨ k % 4 = 2 ∨ k % 4 = 3 by omega) with h | h | h | h
  · by_cases hc : y % 5 = 0
    · exact lm_A k x y k0 k1 x0 x1 y0 y1 h hc w
    · exact lm_B k x y k0 k1 x0 x1 y0 y1 h (by omega) w
  · by_cases hc : y % 5 = 0
    · exact lm_C k x y k0 k1 x0 x1 y0 y1 h hc w
    · by_cases hd : y % 5 = x % 4 + 1
      · exact lm_D k x y k0 k1 x0 x1 y0 y1 h hd w
      · exact lm_E k x y k0 k1 x0 x1 y0 y1 h (by omega) hd w
  · by_cases hc : y % 5 = 0
    · exact lm_F k x y k0 k1 x0 x1 y0 y1 h hc w
    · exact lm_G k x y k0 k1 x0 x1 y0 y1 h (by omega) w
  · exact lm_H k x y k0 k1 x0 x1 y0 y1 h trivial w

end Go.Proofs.Ytjbbjbbkembknaa
