/-
  FlowsMean, WALKED.
-/
import Derived.Test.YtkpgfchglaemgaaDoorFmWf
import Derived.Deep.QuietTactic
import Derived.BigQuiet
import Derived.Deep.RegionHeld3
namespace Go.Proofs.YtkpgfchglaemgaaDoor
set_option linter.unusedVariables false
set_option linter.unusedSimpArgs false
open Go.RowKit
attribute [local go_sem] Oper.semAt_some

theorem own_frV {w : World} {B g n cap : Nat} {l : List Int} (h : valOwn w B (.slice (some ⟨g, 0, none⟩) n cap) l) (j : Nat) : w.frozen? ⟨g, j, none⟩ = false := by
  have hl := (own_form h).1
  subst hl
  exact World.ownsRow.frozenAt h j
theorem shape_f1 (x y z : Int) (a : Option Addr) (m c : Nat) (w : World) : (Instr.field 46 (.agg #[.int .i64 x, .int .i64 y, .int .i64 z, .slice a m c]) 1).run Tryd.prog w = .ok (.int .i64 y) w := by kernel_rfl
theorem shape_f2 (x y z : Int) (a : Option Addr) (m c : Nat) (w : World) : (Instr.field 46 (.agg #[.int .i64 x, .int .i64 y, .int .i64 z, .slice a m c]) 2).run Tryd.prog w = .ok (.int .i64 z) w := by kernel_rfl
structure XBox (W : World) (p : Nat) (x0 x1 x2 x3 x4 x5 : Int) : Prop where
  st : W.heap[p]? = some (.cells #[.int .u8 x0, .int .u8 x1, .int .u8 x2, .int .u8 x3, .int .u8 x4, .int .u8 x5] 22 (0, 0))
theorem XBox.touch {W W' : World} {p : Nat} {x0 x1 x2 x3 x4 x5 : Int} {S : List Nat} (h : XBox W p x0 x1 x2 x3 x4 x5) (t : Touch W W' S) (hS : p ∉ S) : XBox W' p x0 x1 x2 x3 x4 x5 := ⟨(t.block p (lt_of_heap h.st) hS).trans h.st⟩
theorem XBox.cells {W : World} {p : Nat} {x0 x1 x2 x3 x4 x5 : Int} (h : XBox W p x0 x1 x2 x3 x4 x5) : W.cell? ⟨p, 0, none⟩ = some (.int .u8 x0) ∧ W.cell? ⟨p, 1, none⟩ = some (.int .u8 x1) ∧ W.cell? ⟨p, 2, none⟩ = some (.int .u8 x2) := by
  refine ⟨?_, ?_, ?_⟩ <;> (unfold World.cell?; rw [h.st]; rfl)

/-- All that the law keeps: the instructions and the call, the array, the State, the heap. -/
structure FmS (w W : World) (ao : Option Addr) (cap : Nat) (L : List InsD) (p : Nat) (K val : Int) (px : Nat) (x0 x1 x2 x3 x4 x5 : Int) (gh M : Nat) (vV : Int) (hl : List Int) : Prop where
  a : FmAt w W ao cap L p K val
  x : XBox W px x0 x1 x2 x3 x4 x5
  s : StB W (gh + 1) ⟨0, [], 0, 0, vV, 0, [], 0⟩ (.slice none 0 0) (.slice none 0 0)
  h : valOwn W 0 (.slice (some ⟨gh, 0, none⟩) M M) hl
  pg : p < gh
  xp : px < p
theorem FmS.keep {w W W' : World} {ao : Option Addr} {cap : Nat} {L : List InsD} {p : Nat} {K val : Int} {px : Nat} {x0 x1 x2 x3 x4 x5 : Int} {gh M : Nat} {vV : Int} {hl : List Int} {S : List Nat} (k : FmS w W ao cap L p K val px x0 x1 x2 x3 x4 x5 gh M vV hl) (t : Touch W W' S) (hS : ∀ y ∈ S, gh + 1 < y) : FmS w W' ao cap L p K val px x0 x1 x2 x3 x4 x5 gh M vV hl := by
  have h1 := k.pg
  have h2 := k.xp
  exact ⟨k.a.keep t (fun y hy => by have := hS y hy; omega), k.x.touch t (fun hy => by have := hS _ hy; omega), k.s.touch t (fun hy => by have := hS _ hy; omega), ownsRow_touch k.h t (fun g hg hs => by simp [Value.ownBlock] at hg; have := hS g hs; omega), h1, h2⟩
theorem FmS.set {w W : World} {ao : Option Addr} {cap : Nat} {L : List InsD} {p : Nat} {K val : Int} {px : Nat} {x0 x1 x2 x3 x4 x5 : Int} {gh M : Nat} {vV : Int} {hl : List Int} (k : FmS w W ao cap L p K val px x0 x1 x2 x3 x4 x5 gh M vV hl) (j : Nat) (y : Int) : FmS w (W.setCell ⟨gh, j, none⟩ (.int .u64 y)) ao cap L p K val px x0 x1 x2 x3 x4 x5 gh M vV (hl.set j y) ∧ Touch W (W.setCell ⟨gh, j, none⟩ (.int .u64 y)) [gh] := by
  have h1 := k.pg
  have h2 := k.xp
  have t : Touch W (W.setCell ⟨gh, j, none⟩ (.int .u64 y)) [gh] := (Touch.refl W _).setCell (.inl (by simp)) _
  exact ⟨⟨k.a.keep t (by simp; omega), k.x.touch t (by simp; omega), k.s.touch t (by simp), own_set k.h j y, h1, h2⟩, t⟩

set_option maxRecDepth 100000 in
theorem fm_right_fin : ∀ V : Fin 5, rightB (numV (V.val : Nat)) = true := by decide +kernel
theorem fm_right10_fin : ∀ V : Fin 5, rightB (numV (10 + (V.val : Nat))) = true := by decide +kernel
theorem fm_right10 (V : Nat) (h : V ≤ 4) : rightB (numV (10 + (V : Nat))) = true := fm_right10_fin ⟨V, by omega⟩
theorem fm_right (V : Nat) (h : V ≤ 4) : rightB (numV V) = true := fm_right_fin ⟨V, by omega⟩
set_option maxRecDepth 100000 in
set_option maxHeartbeats 8000000 in
theorem fm_0 {w : World} (hw : Wds w) (k s x0 x1 x2 x3 x4 x5 : Int) (k0 : 0 ≤ k) (k1 : k ≤ 255) (s0 : 0 ≤ s) (s1 : s ≤ 255) (a0 : 0 ≤ x0) (a1 : x0 ≤ 255) (b0 : 0 ≤ x1) (b1 : x1 ≤ 255) (c0 : 0 ≤ x2) (c1 : x2 ≤ 255) (hj : k % 4 = 0) :
    Calls Tryd.prog 3 #[.int .u8 k, .int .u8 s, .agg #[.int .u8 x0, .int .u8 x1, .int .u8 x2, .int .u8 x3, .int .u8 x4, .int .u8 x5]] w fun e w' => e = .returned (.bool true) ∧ Touch w w' [] := by
  obtain ⟨N, hN⟩ : ∃ N : Nat, (N : Int) = s % 4 + 1 := ⟨(s % 4 + 1).toNat, by omega⟩
  obtain ⟨r, hr⟩ : ∃ r : Int, r = s % 4 := ⟨_, rfl⟩
  obtain ⟨V, hV⟩ : ∃ V : Nat, (V : Int) = x0 % 5 := ⟨(x0 % 5).toNat, by omega⟩
  obtain ⟨M, hM⟩ : ∃ M : Nat, M = N + 2 := ⟨_, rfl⟩
  have N1 : 1 ≤ N := by omega
  have N4 : N ≤ 4 := by omega
  have V4 : V ≤ 4 := by omega
  have M6 : M ≤ 6 := by omega
  have M3 : 3 ≤ M := by omega
  have e1 : s.tmod 4 = r := by rw [hr, Int.tmod_eq_emod_of_nonneg s0]
  have e2 : IntKind.i64.wrap s = s := by rw [IntKind.wrap_i64]; omega
  have e3 : IntKind.i64.wrap (r + 1) = (N : Int) := by rw [IntKind.wrap_i64]; omega
  have e4 : IntKind.i64.wrap x0 = x0 := by rw [IntKind.wrap_i64]; omega
  have e5 : x0.tmod 5 = (V : Int) := by rw [Int.tmod_eq_emod_of_nonneg a0, hV]
  have e6 : IntKind.i64.wrap ((N : Int) + 2) = (M : Int) := by rw [IntKind.wrap_i64]; omega
  have e7 : IntKind.i64.wrap x1 = x1 := by rw [IntKind.wrap_i64]; omega
  have e8 : IntKind.i64.wrap x2 = x2 := by rw [IntKind.wrap_i64]; omega
  have e20 : IntKind.i64.wrap r = r := by rw [IntKind.wrap_i64]; omega
  have e21 : IntKind.i64.wrap (V : Int) = V := by rw [IntKind.wrap_i64]; omega
  obtain ⟨N', hN'⟩ : ∃ N' : Nat, N' = N + 1 := ⟨_, rfl⟩
  obtain ⟨c, hc⟩ : ∃ c : Nat, (c : Int) = x1 % N' := ⟨(x1 % N').toNat, by have := Int.emod_nonneg x1 (show (N' : Int) ≠ 0 by omega); omega⟩
  obtain ⟨f, hf⟩ : ∃ f : Nat, (f : Int) = x2 % N := ⟨(x2 % N).toNat, by have := Int.emod_nonneg x2 (show (N : Int) ≠ 0 by omega); omega⟩
  have c4 : c ≤ N := by have := Int.emod_lt_of_pos x1 (show (0 : Int) < N' by omega); omega
  have f4 : f < N := by have := Int.emod_lt_of_pos x2 (show (0 : Int) < N by omega); omega
  have e9 : IntKind.i64.wrap ((N : Int) + 1) = (N' : Int) := by rw [IntKind.wrap_i64]; omega
  have e10 : x1.tmod N' = (c : Int) := by rw [Int.tmod_eq_emod_of_nonneg b0, hc]
  have e11 : x2.tmod N = (f : Int) := by rw [Int.tmod_eq_emod_of_nonneg c0, hf]
  have e12 : (N' : Int) ≠ 0 := by omega
  have e13 : (N : Int) ≠ 0 := by omega
  have e22 : IntKind.i64.wrap (c : Int) = c := by rw [IntKind.wrap_i64]; omega
  have e23 : IntKind.i64.wrap (f : Int) = f := by rw [IntKind.wrap_i64]; omega
  have nV : Wf64 (numV V) := numV_wf' V (by omega) (by omega)
  have rV : rightB (numV V) = true := fm_right V V4
  obtain ⟨Q, hQ⟩ : ∃ Q, Q = w.alloc (.cells #[.int .u8 x0, .int .u8 x1, .int .u8 x2, .int .u8 x3, .int .u8 x4, .int .u8 x5] 22) := ⟨_, rfl⟩
  have tQ : Touch w Q [] := by rw [hQ]; exact (Touch.refl w []).alloc _
  have hx : XBox Q w.heap.size x0 x1 x2 x3 x4 x5 := ⟨by rw [hQ]; exact heap_alloc_new w _⟩
  have hwQ := hw.touch tQ (by simp)
  have H1 : HidC _ _ _ _ _ := ⟨flone_any hwQ k N (numV V) k0 k1 (by omega) (by omega) nV rV⟩
  rw [hj] at H1
  unfold FOneP at H1
  rw [show foneV 0 (numV V) = numV V from rfl] at H1
  have HLV : Hid (∀ W, Touch w W [] → HidC Tryd.prog 6 #[] W fun e w' => e = .returned (.bool true) ∧ Touch W w' []) := fun W t => ⟨fllive_any (hw.touch t (by simp))⟩
  have HIN : Hid (∀ m : Int, -100 ≤ m → m ≤ 1000 → ∀ W, HidC Tryd.prog 4 #[.int .i64 m] W (fun e w' => e = .returned (.tuple #[.int .u64 (numV m), .bool true]) ∧ W = w')) := fun m a b W => ⟨rint_ok m (by omega) (by omega) W⟩
  have HQ : Hid (w.alloc (.cells #[.int .u8 x0, .int .u8 x1, .int .u8 x2, .int .u8 x3, .int .u8 x4, .int .u8 x5] 22) = Q) := hQ.symm
  have HXB : Hid _ := hx
  have HTQ : Hid _ := tQ
  obtain ⟨y0, y1, y2⟩ := hx.cells
  have HMM := make_val M (by omega)
  have HNV : Hid _ := nV
  have HRV : Hid _ := rV
  have HM2 : Hid (M = N + 2) := hM
  clear hQ hx tQ hwQ hw hN hr hV hj nV rV hM hc hf hN'
  go_enter Tryd.func3, Tryd.ntmps3
  go_wp2_with fail
  rw [HQ.out]
  clear HQ
  refine (HIN.out V (by omega) (by omega) _).out.mono ?_
  rintro e _ ⟨rfl, rfl⟩
  clear y0 y1 y2
  go_wp2_with fail
  refine H1.out.mono ?_
  rintro e w1 ⟨ao, cap, rfl, hin, s1⟩
  have hat := FmAt.new (c := 5) (v := numV V) hin (HTQ.out.trans s1 (by simp))
  have hx := HXB.out.touch (s1.alloc (.cells #[.int .u8 5, .int .i64 0, .int .u64 (numV V)] 30)) (by simp)
  have hL := fone_first 0 N (numV V)
  have hxp : w.heap.size < w1.heap.size := Nat.lt_of_lt_of_le (lt_of_heap HXB.out.st) s1.size
  have HXP : Hid _ := hxp
  generalize hp : w1.heap.size = p at *
  have HA1 : Hid _ := hat
  have HX1 : Hid _ := hx
  clear hat hx hin s1 H1 HXB HTQ hL hxp
  obtain ⟨b0', b1', b2'⟩ := HA1.out.box.cells
  go_wp2_with fail
  generalize w1.alloc (.cells #[.int .u8 5, .int .i64 0, .int .u64 (numV V)] 30) = Q1 at *
  refine (HLV.out _ HA1.out.t).out.mono ?_
  rintro e w2 ⟨rfl, t2⟩
  clear HLV b0' b1' b2'
  -- the heap, the State
  have tH : Touch w2 (w2.alloc (.cells (Array.replicate M (.int .u64 0)) 24)) [] := (Touch.refl w2 []).alloc _
  have oH := zero_own w2 M (by omega)
  obtain ⟨W3, hW3⟩ : ∃ W3, W3 = (w2.alloc (.cells (Array.replicate M (.int .u64 0)) 24)).alloc (.cells #[.int .i64 0, .slice none 0 0, .int .u64 0, .int .u64 0, .int .u64 (numV V), .int .u64 0, .slice none 0 0] 38) := ⟨_, rfl⟩
  have t3 : Touch (w2.alloc (.cells (Array.replicate M (.int .u64 0)) 24)) W3 [] := by rw [hW3]; exact (Touch.refl _ []).alloc _
  have hs3 : StB W3 (w2.heap.size + 1) ⟨0, [], 0, 0, numV V, 0, [], 0⟩ (.slice none 0 0) (.slice none 0 0) := ⟨by
    have := heap_alloc_new (w2.alloc (.cells (Array.replicate M (.int .u64 0)) 24)) (.cells #[.int .i64 0, .slice none 0 0, .int .u64 0, .int .u64 0, .int .u64 (numV V), .int .u64 0, .slice none 0 0] 38)
    rw [← hW3] at this
    simpa using this⟩
  have oH3 := ownsRow_touch oH t3 (by simp)
  have HPG : Hid (p < w2.heap.size) := Nat.lt_of_lt_of_le HA1.out.lt t2.size
  have hat3 := HA1.out.keep ((t2.trans tH (by simp)).trans t3 (by simp)) (by simp)
  have hx3 := HX1.out.touch ((t2.trans tH (by simp)).trans t3 (by simp)) (by simp)
  have HA3 : Hid _ := hat3
  have HX3 : Hid _ := hx3
  have HS3 : Hid _ := hs3
  have HH3 : Hid _ := oH3
  have HW3 : Hid ((w2.alloc (.cells (Array.replicate M (.int .u64 0)) 24)).alloc (.cells #[.int .i64 0, .slice none 0 0, .int .u64 0, .int .u64 0, .int .u64 (numV V), .int .u64 0, .slice none 0 0] 38) = W3) := hW3.symm
  clear hW3 t3 hs3 oH3 hat3 hx3 tH oH t2 HA1 HX1
  go_wp2_with fail
  rw [HW3.out]
  clear HW3
  have hsv : FmS w W3 ao cap (foneL 0 N (numV V)) p 5 (numV V) w.heap.size x0 x1 x2 x3 x4 x5 w2.heap.size M (numV V) (List.replicate M 0) := ⟨HA3.out, HX3.out, HS3.out, own_base HH3.out (Nat.zero_le _), HPG.out, HXP.out⟩
  have HSV : Hid _ := hsv
  clear hsv HA3 HX3 HS3 HH3 HPG HXP
  generalize w2.heap.size = gh at *
  refine (rnew_bar N (by omega) (by omega) _).mono ?_
  rintro e w4 ⟨b, rfl, ho, hb, t4⟩
  have hbg : gh + 1 < b := Nat.lt_of_lt_of_le (lt_of_heap HSV.out.s.st) hb
  have hsv := HSV.out.keep t4 (by simp)
  obtain ⟨b0', b1', b2'⟩ := hsv.a.box.cells
  have HSV4 : Hid _ := hsv
  have HO4 : Hid _ := ho
  clear hsv ho hb t4 HSV
  go_wp2_with fail
  refine (rnew_queue N (by omega) (by omega) _).mono ?_
  rintro e w5 ⟨b', rfl, ho, hb, t5⟩
  have hbg' : gh + 1 < b' := Nat.lt_of_lt_of_le (lt_of_heap HSV4.out.s.st) hb
  have hsv := HSV4.out.keep t5 (by simp)
  clear b0' b1' b2' HO4 HSV4 hb t5 hbg
  have hbg := hbg'
  clear hbg'
  generalize b' = b at *
  obtain ⟨y0, y1, y2⟩ := hsv.x.cells
  have HSV5 : Hid _ := hsv
  have HO5 : Hid _ := ho
  clear hsv ho
  go_wp2_with fail
  go_quiet (fail)
  generalize hq : w5.drewN _ = w6 at *
  have t6 : Touch w5 w6 [] := by rw [← hq]; exact (Touch.refl w5 []).drewN _
  have hq' := hq
  clear hq hq' y0 y1 y2
  have hsv := HSV5.out.keep t6 (by simp)
  have ho := HO5.out.touch t6 (by simp) (by simp)
  have HSV6 : Hid _ := hsv
  have HO6 : Hid _ := ho
  clear hsv ho t6 HSV5 HO5
  go_wp2_with fail
  refine (HIN.out c (by omega) (by omega) _).out.mono ?_
  rintro e _ ⟨rfl, rfl⟩
  have hM3 := HM2.out
  have hg0 : (0 : Int) < M := by omega
  have hg1 : (1 : Int) < M := by omega
  have z0 := own_at HSV6.out.h 0 (by omega)
  have zf := own_frV HSV6.out.h 0
  have hsv := (HSV6.out.set 0 (numV c)).1
  have ho := HO6.out.touch (HSV6.out.set 0 (numV c)).2 (by simp; omega) (by simp)
  have HSV7 : Hid _ := hsv
  have HO7 : Hid _ := ho
  have z1 := own_at hsv.h 1 (by omega)
  have zg := own_frV hsv.h 1
  clear hsv ho HSV6 HO6 hM3
  go_wp2_with fail
  refine (HIN.out f (by omega) (by omega) _).out.mono ?_
  rintro e _ ⟨rfl, rfl⟩
  have hsv := (HSV7.out.set 1 (numV f)).1
  have ho := HO7.out.touch (HSV7.out.set 1 (numV f)).2 (by simp; omega) (by simp)
  have HSV8 : Hid _ := hsv
  have HO8 : Hid _ := ho
  have HF0 : Hid (fmFill N c f 0 = ((List.replicate M (0 : Int)).set 0 (numV c)).set 1 (numV f)) := by show _ = _; rw [HM2.out]; rfl
  clear hsv ho HSV7 HO7
  go_wp2_with fail
  generalize hW8 : (w6.setCell ⟨gh, 0, none⟩ (.int .u64 (numV c))).setCell ⟨gh, 1, none⟩ (.int .u64 (numV f)) = W8 at *
  have hW8' := hW8
  clear hW8 hW8' z0 z1 zf zg
  have HBG : Hid (gh + 1 < b) := hbg
  have HFL : Hid _ := fmFill_len N c f
  clear hbg
  go_loopw [18] (fun vi wr => ∃ (i : Nat) (v' : Value), vi = .int .i64 i ∧ i ≤ c ∧ FmS w wr ao cap (foneL 0 N (numV V)) p 5 (numV V) w.heap.size x0 x1 x2 x3 x4 x5 gh M (numV V) (fmFill N c f i) ∧ RObV wr b 3 N (-1) 0 0 v' (fmV i) ∧ (∀ x, v'.ownBlock = some x → b < x)) (fun vi _ => c - (intOf vi).toNat)
  case atStart => exact ⟨0, .slice none 0 0, rfl, Nat.zero_le _, by rw [HF0.out]; exact HSV8.out, HO8.out, fun x hx => by simp [Value.ownBlock] at hx⟩
  case round =>
    obtain ⟨i, v', rfl, hi, hsv, ho, hvb⟩ := hrel
    by_cases hic : i < c
    · have hlt : (i : Int) < c := by omega
      have hm2 := HM2.out
      obtain ⟨q1, hq1⟩ : ∃ q : Nat, q = f + i := ⟨_, rfl⟩
      obtain ⟨q2, hq2⟩ : ∃ q : Nat, q = q1 % N := ⟨_, rfl⟩
      obtain ⟨q3, hq3⟩ : ∃ q : Nat, q = 2 + q2 := ⟨_, rfl⟩
      have hq2l : q2 < N := by rw [hq2]; exact Nat.mod_lt _ (by omega)
      have g1 : IntKind.i64.wrap ((f : Int) + i) = (q1 : Int) := by rw [IntKind.wrap_i64]; omega
      have g2 : (q1 : Int).tmod N = (q2 : Int) := by rw [Int.tmod_eq_emod_of_nonneg (by omega), hq2]; simp
      have g3 : IntKind.i64.wrap (2 + (q2 : Int)) = (q3 : Int) := by rw [IntKind.wrap_i64]; omega
      have g4 : IntKind.i64.wrap ((i : Int) + 1) = (i : Int) + 1 := by rw [IntKind.wrap_i64]; omega
      have g5 : IntKind.i64.wrap (10 + (i : Int)) = 10 + (i : Int) := by rw [IntKind.wrap_i64]; omega
      have hq3l : (q3 : Int) < M := by omega
      have hq30 : (0 : Int) ≤ q3 := by omega
      have hbg := HBG.out
      have zq := own_at hsv.h q3 (by omega)
      have zf := own_frV hsv.h q3
      have hs2 := (hsv.set q3 (numV (10 + (i : Nat)))).1
      have ho2 := ho.touch (hsv.set q3 (numV (10 + (i : Nat)))).2 (by simp; omega) (fun _ x hx hs => by have := hvb x hx; simp at hs; omega)
      have hn10 : Wf64 (numV (10 + (i : Nat))) := numV_wf' _ (by omega) (by omega)
      have hr10 : rightB (numV (10 + (i : Nat))) = true := fm_right10 i (by omega)
      have HDO : HidC _ _ _ _ _ := ⟨rdv_enter (u := 0) hn10 hr10 (by omega) (by omega) (by rw [fmV_len]; omega) (by rw [fmV_len]; omega) (by omega) ho2⟩
      have hfe : fmFill N c f (i + 1) = (fmFill N c f i).set q3 (numV (10 + (i : Nat))) := by rw [hq3, hq2, hq1]; rfl
      have HFE : Hid _ := hfe
      have HS2 : Hid _ := hs2
      have HVB : Hid _ := hvb
      have HBL : Hid (b < wr.heap.size) := lt_of_heap ho.st
      clear hq1 hq2 hq3 hq2l hm2 hs2 ho2 hn10 hr10 hfe hbg hsv ho hvb
      go_wp2_with fail
      refine (HIN.out (10 + (i : Int)) (by omega) (by omega) _).out.mono ?_
      rintro e _ ⟨rfl, rfl⟩
      go_wp2_with fail
      refine HDO.out.mono ?_
      rintro e w9 ⟨rfl, ⟨v9, ho9, hv9⟩, t9⟩
      have hs9 := HS2.out.keep t9 (by have := HBG.out; simp; omega)
      rw [← HFE.out] at hs9
      rw [← fmV_succ] at ho9
      have HS9 : Hid _ := hs9
      have HO9 : Hid _ := ho9
      have HV9 : Hid _ := hv9
      clear hs9 ho9 hv9 t9 HDO zq zf
      go_wp2_with fail
      go_roundw
      case rel => exact ⟨i + 1, v9, by go_num, by omega, HS9.out, HO9.out, fun x hx => by
        rcases HV9.out x hx with q | q
        · have := HBL.out; simp at q; omega
        · exact HVB.out x q⟩
      case measure => simp [intOf]; omega
    · have hge : decide ((i : Int) < c) = false := decide_eq_false (by omega)
      obtain rfl : i = c := by omega
      have hff := fm_fill N i f N1 N4 c4 f4
      rw [hff] at hsv
      have HWQ := fm_wfQ N i f N1 N4 c4 f4
      have hokk := fm_okE N V i f N1 N4 V4 c4 f4
      have hMi : (fmQ N i f).length = M := by rw [fmQ_len, HM2.out]
      have hHR : VRow wr (.slice (some ⟨gh, 0, none⟩) M M) (fmQ N i f) := by
        have := vrow_of hsv.h
        exact this
      obtain ⟨b0', b1', b2'⟩ := hsv.a.box.cells
      obtain ⟨s0', s1', s2', s3', s4', s5', s6'⟩ := hsv.s.cells
      simp only at s0' s1' s2' s3' s4' s5' s6'
      unfold fmOkE at hokk
      have HS : Hid _ := hsv
      have HO : Hid _ := ho
      have HVB : Hid _ := hvb
      by_cases hful : i = N
      · -- it blocks
        rw [if_pos hful] at hokk
        simp only [beq_iff_eq] at hokk
        have HC := fm_blk 0 N V M (by omega) (by omega) N1 N4 V4 (fmQ N i f) hMi M6 HWQ (.inr hokk) wr ao cap (some ⟨gh, 0, none⟩) M hsv.a.ins hHR
        generalize fmR 0 N (numV V) (fmQ N i f) = R at *
        obtain ⟨r1, ⟨pc, st, l0, l1, l2, l3, ou, fu⟩, h⟩ := R
        simp only at hokk
        subst hokk
        have HFU : Hid _ := hful
        clear hsv ho hvb HSV8 HO8 HF0 hff HWQ hMi hHR hful
        go_wp2_with fail
        refine HC.out.mono ?_
        rintro e w10 (⟨h0, _⟩ | ⟨_, sa, sc, oa, oc, ha, hc10, rfl, v1, v2, v3, t10, f1, f2, f3⟩)
        · simp at h0
        have tO : Touch w10 (w10.alloc (.cells (outA 2 ⟨0, [], 0, 0, numV V, 0, [], 0⟩ (.slice sa 0 sc) (.slice oa 0 oc) (.slice ha (fmQ N i f).length hc10) (.slice none 0 0) 0) 51)) [] := (Touch.refl w10 []).alloc _
        have hq : OutB (w10.alloc (.cells (outA 2 ⟨0, [], 0, 0, numV V, 0, [], 0⟩ (.slice sa 0 sc) (.slice oa 0 oc) (.slice ha (fmQ N i f).length hc10) (.slice none 0 0) 0) 51)) w10.heap.size (outA 2 ⟨0, [], 0, 0, numV V, 0, [], 0⟩ (.slice sa 0 sc) (.slice oa 0 oc) (.slice ha (fmQ N i f).length hc10) (.slice none 0 0) 0) := ⟨heap_alloc_new w10 _⟩
        have hs11 := HS.out.keep (t10.trans tO (by simp)) (by simp)
        have ho11 := HO.out.touch (t10.trans tO (by simp)) (by simp) (by simp)
        obtain ⟨b0', b1', b2'⟩ := hs11.a.box.cells
        simp only [outA] at b0' b1' b2'
        have hbW := lt_of_heap HO.out.st
        have hqb : w10.heap.size ∉ [b] := by have := t10.size; simp; omega
        have hfu := HFU.out
        have HDO : HidC _ _ _ _ _ := ⟨rdv_full (u := 0) (numV_wf' V (by omega) (by omega)) (fm_right V V4) (by omega) (by omega) (by rw [fmV_len]; omega) (by omega) ho11⟩
        have HQ11 : Hid _ := hq
        have HQB : Hid _ := hqb
        have HS11 : Hid _ := hs11
        clear hs11 ho11 hq hqb tO t10 v1 v2 v3 f1 f2 f3 HC hbW hfu
        go_wp2_with fail
        refine HDO.out.mono ?_
        rintro e w12 ⟨rfl, _, t12⟩
        have tA : Touch w12 (w12.alloc (.cells #[.int .u64 0, .bool true, .int .i64 0] 43)) [] := (Touch.refl w12 []).alloc _
        obtain ⟨a0', a1', a2'⟩ := ans_cells (heap_alloc_new w12 (.cells #[.int .u64 0, .bool true, .int .i64 0] 43))
        have hq12 := HQ11.out.touch (t12.trans tA (by simp)) HQB.out
        have q0 := hq12.cell 0
        simp only [outA, List.getElem?_toArray, List.getElem?_cons_zero, List.getElem?_cons_succ] at q0
        have hs12 := HS11.out.keep (t12.trans tA (by simp)) (by have := HBG.out; simp; omega)
        have HT : Hid _ := hs12.a.t
        clear hq12 t12 tA hs12 HDO b0' b1' b2'
        go_wp2
        go_ret
        exact ⟨rfl, HT.out⟩
      · -- it goes on
        rw [if_neg hful] at hokk
        unfold fmEnd at hokk
        simp only [Bool.and_eq_true, beq_iff_eq] at hokk
        obtain ⟨⟨⟨hR1, hR2⟩, hR3⟩, hHQ⟩ := hokk
        have HC := fm_blk 0 N V M (by omega) (by omega) N1 N4 V4 (fmQ N i f) hMi M6 HWQ (.inl hR1) wr ao cap (some ⟨gh, 0, none⟩) M hsv.a.ins hHR
        have hw1 := fm_wfE N V i f N1 N4 V4 c4 f4
        generalize fmR 0 N (numV V) (fmQ N i f) = R at *
        obtain ⟨r1, ⟨pc, st, l0, l1, l2, l3, ou, fu⟩, h⟩ := R
        simp only at hR1 hR2 hR3 hHQ hw1
        subst hR1 hR2 hR3
        have HHQ : Hid _ := hHQ
        have HW1 : Hid _ := hw1
        have HFU : Hid (i < N) := by show i < N; omega
        clear hsv ho hvb HSV8 HO8 HF0 hff HWQ hMi hHR hful hHQ hw1
        go_wp2_with fail
        refine HC.out.mono ?_
        rintro e w10 (⟨_, sa, sc, oa, oc, ha, hc10, rfl, v1, v2, v3, t10, f1, f2, f3⟩ | ⟨h0, _⟩)
        rotate_left
        · simp at h0
        simp only [List.length_cons, List.length_nil, Nat.zero_add] at v1 f1
        have tO : Touch w10 (w10.alloc (.cells (outA 1 ⟨((foneL 0 N (numV V)).length : Int), [], l0, l1, l2, l3, ou, fu⟩ (.slice sa 0 sc) (.slice oa ou.length oc) (.slice ha h.length hc10) (.slice none 0 0) 0) 51)) [] := (Touch.refl w10 []).alloc _
        have hq : OutB (w10.alloc (.cells (outA 1 ⟨((foneL 0 N (numV V)).length : Int), [], l0, l1, l2, l3, ou, fu⟩ (.slice sa 0 sc) (.slice oa ou.length oc) (.slice ha h.length hc10) (.slice none 0 0) 0) 51)) w10.heap.size (outA 1 ⟨((foneL 0 N (numV V)).length : Int), [], l0, l1, l2, l3, ou, fu⟩ (.slice sa 0 sc) (.slice oa ou.length oc) (.slice ha h.length hc10) (.slice none 0 0) 0) := ⟨heap_alloc_new w10 _⟩
        have hs11 := HS.out.keep (t10.trans tO (by simp)) (by simp)
        have ho11 := HO.out.touch (t10.trans tO (by simp)) (by simp) (by simp)
        obtain ⟨b0', b1', b2'⟩ := hs11.a.box.cells
        simp only [outA] at b0' b1' b2'
        have hbW := lt_of_heap HO.out.st
        have hqb : w10.heap.size ∉ [b] := by have := t10.size; simp; omega
        have hfu := HFU.out
        have HDO : HidC _ _ _ _ _ := ⟨rdv_enter (s := (N : Int)) (u := 0) (numV_wf' V (by omega) (by omega)) (fm_right V V4) (by omega) (by omega) (by rw [fmV_len]; omega) (by rw [fmV_len]; omega) (by omega) ho11⟩
        have HQ11 : Hid _ := hq
        have HQB : Hid _ := hqb
        have HS11 : Hid _ := hs11
        have HV3 : Hid _ := SRow.keep v3 tO (by simp)
        have HV1 : Hid _ := SRow.keep v1 tO (by simp)
        have HF3 : Hid (∀ g, (Value.slice ha h.length hc10).ownBlock = some g → g ∉ [b]) := fun g hg hs => by have := f3 g hg; simp at hs; omega
        have HF1 : Hid (∀ g, (Value.slice sa 0 sc).ownBlock = some g → g ∉ [b]) := fun g hg hs => by have := f1 g hg; simp at hs; omega
        clear hs11 ho11 hq hqb tO t10 v1 v2 v3 f1 f2 f3 HC hbW hfu
        go_wp2_with fail
        refine HDO.out.mono ?_
        rintro e w12 ⟨rfl, ⟨v12, ho12, _⟩, t12⟩
        obtain ⟨Y, hY⟩ : ∃ Y, Y = w12.alloc (.cells #[.int .u64 (4607182418800017408), .bool false, .int .i64 0] 43) := ⟨_, rfl⟩
        have tA : Touch w12 Y [] := by rw [hY]; exact (Touch.refl w12 []).alloc _
        have han : Y.heap[w12.heap.size]? = some (.cells #[.int .u64 (4607182418800017408), .bool false, .int .i64 0] 43 (0, 0)) := by rw [hY]; exact heap_alloc_new w12 _
        have tY := t12.trans tA (by simp)
        have hq12 := HQ11.out.touch tY HQB.out
        have q0 := hq12.cell 0
        have q1 := hq12.cell 1
        have q2 := hq12.cell 2
        have q8 := hq12.cell 8
        simp only [outA, List.getElem?_toArray, List.getElem?_cons_zero, List.getElem?_cons_succ] at q0 q1 q2 q8
        have hs12 := HS11.out.keep tY (by have := HBG.out; simp; omega)
        obtain ⟨b0', b1', b2'⟩ := hs12.a.box.cells
        have HT : Hid _ := hs12.a.t
        have hv3 := SRow.keepB HV3.out tY (fun _ g hg => HF3.out g hg)
        have hv1 := SRow.keepB HV1.out tY (fun _ g hg => HF1.out g hg)
        have ho13 := ho12.touch tA (by simp) (by simp)
        have HH : Hid (∀ Z, Touch Y Z [] → HidC Tryd.prog 11 #[.pointer (some ⟨b, 0, none⟩), .slice ha h.length hc10, .int .i64 N] Z fun e w' => e = .returned (.bool true) ∧ Touch Z w' []) := fun Z tz => ⟨rheld_q (ho13.touch tz (by simp) (by simp)) (by simp [fmV_len]; omega) (SRow.keep hv3 tz (by simp)) HW1.out HHQ.out N1 N4⟩
        obtain ⟨a0', a1', a2'⟩ := ans_cells han
        clear hq12 t12 tA hs12 HDO tY han hv3 ho13 ho12 hv1
        subst hY
        go_wp2_with fail
        refine (HH.out _ (Touch.refl _ [])).out.mono ?_
        rintro e w14 ⟨rfl, t14⟩
        go_wp2
        go_ret
        exact ⟨rfl, HT.out.trans t14 (by simp)⟩

set_option maxRecDepth 100000 in
set_option maxHeartbeats 8000000 in
theorem fm_1 {w : World} (hw : Wds w) (k s x0 x1 x2 x3 x4 x5 : Int) (k0 : 0 ≤ k) (k1 : k ≤ 255) (s0 : 0 ≤ s) (s1 : s ≤ 255) (a0 : 0 ≤ x0) (a1 : x0 ≤ 255) (b0 : 0 ≤ x1) (b1 : x1 ≤ 255) (c0 : 0 ≤ x2) (c1 : x2 ≤ 255) (hj : k % 4 = 1) :
    Calls Tryd.prog 3 #[.int .u8 k, .int .u8 s, .agg #[.int .u8 x0, .int .u8 x1, .int .u8 x2, .int .u8 x3, .int .u8 x4, .int .u8 x5]] w fun e w' => e = .returned (.bool true) ∧ Touch w w' [] := by
  obtain ⟨N, hN⟩ : ∃ N : Nat, (N : Int) = s % 4 + 1 := ⟨(s % 4 + 1).toNat, by omega⟩
  obtain ⟨r, hr⟩ : ∃ r : Int, r = s % 4 := ⟨_, rfl⟩
  obtain ⟨V, hV⟩ : ∃ V : Nat, (V : Int) = x0 % 5 := ⟨(x0 % 5).toNat, by omega⟩
  obtain ⟨M, hM⟩ : ∃ M : Nat, M = N + 2 := ⟨_, rfl⟩
  have N1 : 1 ≤ N := by omega
  have N4 : N ≤ 4 := by omega
  have V4 : V ≤ 4 := by omega
  have M6 : M ≤ 6 := by omega
  have M3 : 3 ≤ M := by omega
  have e1 : s.tmod 4 = r := by rw [hr, Int.tmod_eq_emod_of_nonneg s0]
  have e2 : IntKind.i64.wrap s = s := by rw [IntKind.wrap_i64]; omega
  have e3 : IntKind.i64.wrap (r + 1) = (N : Int) := by rw [IntKind.wrap_i64]; omega
  have e4 : IntKind.i64.wrap x0 = x0 := by rw [IntKind.wrap_i64]; omega
  have e5 : x0.tmod 5 = (V : Int) := by rw [Int.tmod_eq_emod_of_nonneg a0, hV]
  have e6 : IntKind.i64.wrap ((N : Int) + 2) = (M : Int) := by rw [IntKind.wrap_i64]; omega
  have e7 : IntKind.i64.wrap x1 = x1 := by rw [IntKind.wrap_i64]; omega
  have e8 : IntKind.i64.wrap x2 = x2 := by rw [IntKind.wrap_i64]; omega
  have e20 : IntKind.i64.wrap r = r := by rw [IntKind.wrap_i64]; omega
  have e21 : IntKind.i64.wrap (V : Int) = V := by rw [IntKind.wrap_i64]; omega
  obtain ⟨N', hN'⟩ : ∃ N' : Nat, N' = N + 1 := ⟨_, rfl⟩
  obtain ⟨c, hc⟩ : ∃ c : Nat, (c : Int) = x1 % N' := ⟨(x1 % N').toNat, by have := Int.emod_nonneg x1 (show (N' : Int) ≠ 0 by omega); omega⟩
  obtain ⟨f, hf⟩ : ∃ f : Nat, (f : Int) = x2 % N := ⟨(x2 % N).toNat, by have := Int.emod_nonneg x2 (show (N : Int) ≠ 0 by omega); omega⟩
  have c4 : c ≤ N := by have := Int.emod_lt_of_pos x1 (show (0 : Int) < N' by omega); omega
  have f4 : f < N := by have := Int.emod_lt_of_pos x2 (show (0 : Int) < N by omega); omega
  have e9 : IntKind.i64.wrap ((N : Int) + 1) = (N' : Int) := by rw [IntKind.wrap_i64]; omega
  have e10 : x1.tmod N' = (c : Int) := by rw [Int.tmod_eq_emod_of_nonneg b0, hc]
  have e11 : x2.tmod N = (f : Int) := by rw [Int.tmod_eq_emod_of_nonneg c0, hf]
  have e12 : (N' : Int) ≠ 0 := by omega
  have e13 : (N : Int) ≠ 0 := by omega
  have e22 : IntKind.i64.wrap (c : Int) = c := by rw [IntKind.wrap_i64]; omega
  have e23 : IntKind.i64.wrap (f : Int) = f := by rw [IntKind.wrap_i64]; omega
  have nV : Wf64 (numV V) := numV_wf' V (by omega) (by omega)
  have rV : rightB (numV V) = true := fm_right V V4
  obtain ⟨Q, hQ⟩ : ∃ Q, Q = w.alloc (.cells #[.int .u8 x0, .int .u8 x1, .int .u8 x2, .int .u8 x3, .int .u8 x4, .int .u8 x5] 22) := ⟨_, rfl⟩
  have tQ : Touch w Q [] := by rw [hQ]; exact (Touch.refl w []).alloc _
  have hx : XBox Q w.heap.size x0 x1 x2 x3 x4 x5 := ⟨by rw [hQ]; exact heap_alloc_new w _⟩
  have hwQ := hw.touch tQ (by simp)
  have H1 : HidC _ _ _ _ _ := ⟨flone_any hwQ k N (numV V) k0 k1 (by omega) (by omega) nV rV⟩
  rw [hj] at H1
  unfold FOneP at H1
  rw [show foneV 1 (numV V) = 0 from rfl] at H1
  have HLV : Hid (∀ W, Touch w W [] → HidC Tryd.prog 6 #[] W fun e w' => e = .returned (.bool true) ∧ Touch W w' []) := fun W t => ⟨fllive_any (hw.touch t (by simp))⟩
  have HIN : Hid (∀ m : Int, -100 ≤ m → m ≤ 1000 → ∀ W, HidC Tryd.prog 4 #[.int .i64 m] W (fun e w' => e = .returned (.tuple #[.int .u64 (numV m), .bool true]) ∧ W = w')) := fun m a b W => ⟨rint_ok m (by omega) (by omega) W⟩
  have HQ : Hid (w.alloc (.cells #[.int .u8 x0, .int .u8 x1, .int .u8 x2, .int .u8 x3, .int .u8 x4, .int .u8 x5] 22) = Q) := hQ.symm
  have HXB : Hid _ := hx
  have HTQ : Hid _ := tQ
  obtain ⟨y0, y1, y2⟩ := hx.cells
  have HMM := make_val M (by omega)
  have HNV : Hid _ := nV
  have HRV : Hid _ := rV
  have HM2 : Hid (M = N + 2) := hM
  clear hQ hx tQ hwQ hw hN hr hV hj nV rV hM hc hf hN'
  go_enter Tryd.func3, Tryd.ntmps3
  go_wp2_with fail
  rw [HQ.out]
  clear HQ
  refine (HIN.out V (by omega) (by omega) _).out.mono ?_
  rintro e _ ⟨rfl, rfl⟩
  clear y0 y1 y2
  go_wp2_with fail
  refine H1.out.mono ?_
  rintro e w1 ⟨ao, cap, rfl, hin, s1⟩
  have hat := FmAt.new (c := 6) (v := 0) hin (HTQ.out.trans s1 (by simp))
  have hx := HXB.out.touch (s1.alloc (.cells #[.int .u8 6, .int .i64 0, .int .u64 (0)] 30)) (by simp)
  have hL := fone_first 1 N (numV V)
  have hxp : w.heap.size < w1.heap.size := Nat.lt_of_lt_of_le (lt_of_heap HXB.out.st) s1.size
  have HXP : Hid _ := hxp
  generalize hp : w1.heap.size = p at *
  have HA1 : Hid _ := hat
  have HX1 : Hid _ := hx
  clear hat hx hin s1 H1 HXB HTQ hL hxp
  obtain ⟨b0', b1', b2'⟩ := HA1.out.box.cells
  go_wp2_with fail
  generalize w1.alloc (.cells #[.int .u8 6, .int .i64 0, .int .u64 (0)] 30) = Q1 at *
  refine (HLV.out _ HA1.out.t).out.mono ?_
  rintro e w2 ⟨rfl, t2⟩
  clear HLV b0' b1' b2'
  -- the heap, the State
  have tH : Touch w2 (w2.alloc (.cells (Array.replicate M (.int .u64 0)) 24)) [] := (Touch.refl w2 []).alloc _
  have oH := zero_own w2 M (by omega)
  obtain ⟨W3, hW3⟩ : ∃ W3, W3 = (w2.alloc (.cells (Array.replicate M (.int .u64 0)) 24)).alloc (.cells #[.int .i64 0, .slice none 0 0, .int .u64 0, .int .u64 0, .int .u64 (numV V), .int .u64 0, .slice none 0 0] 38) := ⟨_, rfl⟩
  have t3 : Touch (w2.alloc (.cells (Array.replicate M (.int .u64 0)) 24)) W3 [] := by rw [hW3]; exact (Touch.refl _ []).alloc _
  have hs3 : StB W3 (w2.heap.size + 1) ⟨0, [], 0, 0, numV V, 0, [], 0⟩ (.slice none 0 0) (.slice none 0 0) := ⟨by
    have := heap_alloc_new (w2.alloc (.cells (Array.replicate M (.int .u64 0)) 24)) (.cells #[.int .i64 0, .slice none 0 0, .int .u64 0, .int .u64 0, .int .u64 (numV V), .int .u64 0, .slice none 0 0] 38)
    rw [← hW3] at this
    simpa using this⟩
  have oH3 := ownsRow_touch oH t3 (by simp)
  have HPG : Hid (p < w2.heap.size) := Nat.lt_of_lt_of_le HA1.out.lt t2.size
  have hat3 := HA1.out.keep ((t2.trans tH (by simp)).trans t3 (by simp)) (by simp)
  have hx3 := HX1.out.touch ((t2.trans tH (by simp)).trans t3 (by simp)) (by simp)
  have HA3 : Hid _ := hat3
  have HX3 : Hid _ := hx3
  have HS3 : Hid _ := hs3
  have HH3 : Hid _ := oH3
  have HW3 : Hid ((w2.alloc (.cells (Array.replicate M (.int .u64 0)) 24)).alloc (.cells #[.int .i64 0, .slice none 0 0, .int .u64 0, .int .u64 0, .int .u64 (numV V), .int .u64 0, .slice none 0 0] 38) = W3) := hW3.symm
  clear hW3 t3 hs3 oH3 hat3 hx3 tH oH t2 HA1 HX1
  go_wp2_with fail
  rw [HW3.out]
  clear HW3
  have hsv : FmS w W3 ao cap (foneL 1 N (numV V)) p 6 (0) w.heap.size x0 x1 x2 x3 x4 x5 w2.heap.size M (numV V) (List.replicate M 0) := ⟨HA3.out, HX3.out, HS3.out, own_base HH3.out (Nat.zero_le _), HPG.out, HXP.out⟩
  have HSV : Hid _ := hsv
  clear hsv HA3 HX3 HS3 HH3 HPG HXP
  generalize w2.heap.size = gh at *
  refine (rnew_bar N (by omega) (by omega) _).mono ?_
  rintro e w4 ⟨b, rfl, ho, hb, t4⟩
  have hbg : gh + 1 < b := Nat.lt_of_lt_of_le (lt_of_heap HSV.out.s.st) hb
  have hsv := HSV.out.keep t4 (by simp)
  obtain ⟨b0', b1', b2'⟩ := hsv.a.box.cells
  have HSV4 : Hid _ := hsv
  have HO4 : Hid _ := ho
  clear hsv ho hb t4 HSV
  go_wp2_with fail
  refine (rnew_queue N (by omega) (by omega) _).mono ?_
  rintro e w5 ⟨b', rfl, ho, hb, t5⟩
  have hbg' : gh + 1 < b' := Nat.lt_of_lt_of_le (lt_of_heap HSV4.out.s.st) hb
  have hsv := HSV4.out.keep t5 (by simp)
  clear b0' b1' b2' HO4 HSV4 hb t5 hbg
  have hbg := hbg'
  clear hbg'
  generalize b' = b at *
  obtain ⟨y0, y1, y2⟩ := hsv.x.cells
  have HSV5 : Hid _ := hsv
  have HO5 : Hid _ := ho
  clear hsv ho
  go_wp2_with fail
  go_quiet (fail)
  generalize hq : w5.drewN _ = w6 at *
  have t6 : Touch w5 w6 [] := by rw [← hq]; exact (Touch.refl w5 []).drewN _
  have hq' := hq
  clear hq hq' y0 y1 y2
  have hsv := HSV5.out.keep t6 (by simp)
  have ho := HO5.out.touch t6 (by simp) (by simp)
  have HSV6 : Hid _ := hsv
  have HO6 : Hid _ := ho
  clear hsv ho t6 HSV5 HO5
  go_wp2_with fail
  refine (HIN.out c (by omega) (by omega) _).out.mono ?_
  rintro e _ ⟨rfl, rfl⟩
  have hM3 := HM2.out
  have hg0 : (0 : Int) < M := by omega
  have hg1 : (1 : Int) < M := by omega
  have z0 := own_at HSV6.out.h 0 (by omega)
  have zf := own_frV HSV6.out.h 0
  have hsv := (HSV6.out.set 0 (numV c)).1
  have ho := HO6.out.touch (HSV6.out.set 0 (numV c)).2 (by simp; omega) (by simp)
  have HSV7 : Hid _ := hsv
  have HO7 : Hid _ := ho
  have z1 := own_at hsv.h 1 (by omega)
  have zg := own_frV hsv.h 1
  clear hsv ho HSV6 HO6 hM3
  go_wp2_with fail
  refine (HIN.out f (by omega) (by omega) _).out.mono ?_
  rintro e _ ⟨rfl, rfl⟩
  have hsv := (HSV7.out.set 1 (numV f)).1
  have ho := HO7.out.touch (HSV7.out.set 1 (numV f)).2 (by simp; omega) (by simp)
  have HSV8 : Hid _ := hsv
  have HO8 : Hid _ := ho
  have HF0 : Hid (fmFill N c f 0 = ((List.replicate M (0 : Int)).set 0 (numV c)).set 1 (numV f)) := by show _ = _; rw [HM2.out]; rfl
  clear hsv ho HSV7 HO7
  go_wp2_with fail
  generalize hW8 : (w6.setCell ⟨gh, 0, none⟩ (.int .u64 (numV c))).setCell ⟨gh, 1, none⟩ (.int .u64 (numV f)) = W8 at *
  have hW8' := hW8
  clear hW8 hW8' z0 z1 zf zg
  have HBG : Hid (gh + 1 < b) := hbg
  have HFL : Hid _ := fmFill_len N c f
  clear hbg
  go_loopw [18] (fun vi wr => ∃ (i : Nat) (v' : Value), vi = .int .i64 i ∧ i ≤ c ∧ FmS w wr ao cap (foneL 1 N (numV V)) p 6 (0) w.heap.size x0 x1 x2 x3 x4 x5 gh M (numV V) (fmFill N c f i) ∧ RObV wr b 3 N (-1) 0 0 v' (fmV i) ∧ (∀ x, v'.ownBlock = some x → b < x)) (fun vi _ => c - (intOf vi).toNat)
  case atStart => exact ⟨0, .slice none 0 0, rfl, Nat.zero_le _, by rw [HF0.out]; exact HSV8.out, HO8.out, fun x hx => by simp [Value.ownBlock] at hx⟩
  case round =>
    obtain ⟨i, v', rfl, hi, hsv, ho, hvb⟩ := hrel
    by_cases hic : i < c
    · have hlt : (i : Int) < c := by omega
      have hm2 := HM2.out
      obtain ⟨q1, hq1⟩ : ∃ q : Nat, q = f + i := ⟨_, rfl⟩
      obtain ⟨q2, hq2⟩ : ∃ q : Nat, q = q1 % N := ⟨_, rfl⟩
      obtain ⟨q3, hq3⟩ : ∃ q : Nat, q = 2 + q2 := ⟨_, rfl⟩
      have hq2l : q2 < N := by rw [hq2]; exact Nat.mod_lt _ (by omega)
      have g1 : IntKind.i64.wrap ((f : Int) + i) = (q1 : Int) := by rw [IntKind.wrap_i64]; omega
      have g2 : (q1 : Int).tmod N = (q2 : Int) := by rw [Int.tmod_eq_emod_of_nonneg (by omega), hq2]; simp
      have g3 : IntKind.i64.wrap (2 + (q2 : Int)) = (q3 : Int) := by rw [IntKind.wrap_i64]; omega
      have g4 : IntKind.i64.wrap ((i : Int) + 1) = (i : Int) + 1 := by rw [IntKind.wrap_i64]; omega
      have g5 : IntKind.i64.wrap (10 + (i : Int)) = 10 + (i : Int) := by rw [IntKind.wrap_i64]; omega
      have hq3l : (q3 : Int) < M := by omega
      have hq30 : (0 : Int) ≤ q3 := by omega
      have hbg := HBG.out
      have zq := own_at hsv.h q3 (by omega)
      have zf := own_frV hsv.h q3
      have hs2 := (hsv.set q3 (numV (10 + (i : Nat)))).1
      have ho2 := ho.touch (hsv.set q3 (numV (10 + (i : Nat)))).2 (by simp; omega) (fun _ x hx hs => by have := hvb x hx; simp at hs; omega)
      have hn10 : Wf64 (numV (10 + (i : Nat))) := numV_wf' _ (by omega) (by omega)
      have hr10 : rightB (numV (10 + (i : Nat))) = true := fm_right10 i (by omega)
      have HDO : HidC _ _ _ _ _ := ⟨rdv_enter (u := 0) hn10 hr10 (by omega) (by omega) (by rw [fmV_len]; omega) (by rw [fmV_len]; omega) (by omega) ho2⟩
      have hfe : fmFill N c f (i + 1) = (fmFill N c f i).set q3 (numV (10 + (i : Nat))) := by rw [hq3, hq2, hq1]; rfl
      have HFE : Hid _ := hfe
      have HS2 : Hid _ := hs2
      have HVB : Hid _ := hvb
      have HBL : Hid (b < wr.heap.size) := lt_of_heap ho.st
      clear hq1 hq2 hq3 hq2l hm2 hs2 ho2 hn10 hr10 hfe hbg hsv ho hvb
      go_wp2_with fail
      refine (HIN.out (10 + (i : Int)) (by omega) (by omega) _).out.mono ?_
      rintro e _ ⟨rfl, rfl⟩
      go_wp2_with fail
      refine HDO.out.mono ?_
      rintro e w9 ⟨rfl, ⟨v9, ho9, hv9⟩, t9⟩
      have hs9 := HS2.out.keep t9 (by have := HBG.out; simp; omega)
      rw [← HFE.out] at hs9
      rw [← fmV_succ] at ho9
      have HS9 : Hid _ := hs9
      have HO9 : Hid _ := ho9
      have HV9 : Hid _ := hv9
      clear hs9 ho9 hv9 t9 HDO zq zf
      go_wp2_with fail
      go_roundw
      case rel => exact ⟨i + 1, v9, by go_num, by omega, HS9.out, HO9.out, fun x hx => by
        rcases HV9.out x hx with q | q
        · have := HBL.out; simp at q; omega
        · exact HVB.out x q⟩
      case measure => simp [intOf]; omega
    · have hge : decide ((i : Int) < c) = false := decide_eq_false (by omega)
      obtain rfl : i = c := by omega
      have hff := fm_fill N i f N1 N4 c4 f4
      rw [hff] at hsv
      have HWQ := fm_wfQ N i f N1 N4 c4 f4
      have hokk := fm_okT N V i f N1 N4 V4 c4 f4
      have hMi : (fmQ N i f).length = M := by rw [fmQ_len, HM2.out]
      have hHR : VRow wr (.slice (some ⟨gh, 0, none⟩) M M) (fmQ N i f) := by
        have := vrow_of hsv.h
        exact this
      obtain ⟨b0', b1', b2'⟩ := hsv.a.box.cells
      obtain ⟨s0', s1', s2', s3', s4', s5', s6'⟩ := hsv.s.cells
      simp only at s0' s1' s2' s3' s4' s5' s6'
      unfold fmOkT at hokk
      have HS : Hid _ := hsv
      have HO : Hid _ := ho
      have HVB : Hid _ := hvb
      by_cases hful : i = 0
      · -- it blocks
        rw [if_pos hful] at hokk
        simp only [beq_iff_eq] at hokk
        have HC := fm_blk 1 N V M (by omega) (by omega) N1 N4 V4 (fmQ N i f) hMi M6 HWQ (.inr hokk) wr ao cap (some ⟨gh, 0, none⟩) M hsv.a.ins hHR
        generalize fmR 1 N (numV V) (fmQ N i f) = R at *
        obtain ⟨r1, ⟨pc, st, l0, l1, l2, l3, ou, fu⟩, h⟩ := R
        simp only at hokk
        subst hokk
        have HFU : Hid _ := hful
        clear hsv ho hvb HSV8 HO8 HF0 hff HWQ hMi hHR hful
        go_wp2_with fail
        refine HC.out.mono ?_
        rintro e w10 (⟨h0, _⟩ | ⟨_, sa, sc, oa, oc, ha, hc10, rfl, v1, v2, v3, t10, f1, f2, f3⟩)
        · simp at h0
        have tO : Touch w10 (w10.alloc (.cells (outA 2 ⟨0, [], 0, 0, numV V, 0, [], 0⟩ (.slice sa 0 sc) (.slice oa 0 oc) (.slice ha (fmQ N i f).length hc10) (.slice none 0 0) 0) 51)) [] := (Touch.refl w10 []).alloc _
        have hq : OutB (w10.alloc (.cells (outA 2 ⟨0, [], 0, 0, numV V, 0, [], 0⟩ (.slice sa 0 sc) (.slice oa 0 oc) (.slice ha (fmQ N i f).length hc10) (.slice none 0 0) 0) 51)) w10.heap.size (outA 2 ⟨0, [], 0, 0, numV V, 0, [], 0⟩ (.slice sa 0 sc) (.slice oa 0 oc) (.slice ha (fmQ N i f).length hc10) (.slice none 0 0) 0) := ⟨heap_alloc_new w10 _⟩
        have hs11 := HS.out.keep (t10.trans tO (by simp)) (by simp)
        have ho11 := HO.out.touch (t10.trans tO (by simp)) (by simp) (by simp)
        obtain ⟨b0', b1', b2'⟩ := hs11.a.box.cells
        simp only [outA] at b0' b1' b2'
        have hbW := lt_of_heap HO.out.st
        have hqb : w10.heap.size ∉ [b] := by have := t10.size; simp; omega
        have hfu := HFU.out
        have HDO : HidC _ _ _ _ _ := ⟨rdv_none (u := 0) (by omega) (by omega) (by have := fmV_len i; cases hx : fmV i with | nil => rfl | cons a b => rw [hx] at this; simp at this; omega) (by omega) ho11⟩
        have HQ11 : Hid _ := hq
        have HQB : Hid _ := hqb
        have HS11 : Hid _ := hs11
        clear hs11 ho11 hq hqb tO t10 v1 v2 v3 f1 f2 f3 HC hbW hfu
        go_wp2_with fail
        refine HDO.out.mono ?_
        rintro e w12 ⟨rfl, _, t12⟩
        have tA : Touch w12 (w12.alloc (.cells #[.int .u64 0, .bool true, .int .i64 0] 43)) [] := (Touch.refl w12 []).alloc _
        obtain ⟨a0', a1', a2'⟩ := ans_cells (heap_alloc_new w12 (.cells #[.int .u64 0, .bool true, .int .i64 0] 43))
        have hq12 := HQ11.out.touch (t12.trans tA (by simp)) HQB.out
        have q0 := hq12.cell 0
        simp only [outA, List.getElem?_toArray, List.getElem?_cons_zero, List.getElem?_cons_succ] at q0
        have hs12 := HS11.out.keep (t12.trans tA (by simp)) (by have := HBG.out; simp; omega)
        have HT : Hid _ := hs12.a.t
        clear hq12 t12 tA hs12 HDO b0' b1' b2'
        go_wp2
        go_ret
        exact ⟨rfl, HT.out⟩
      · -- it goes on
        rw [if_neg hful] at hokk
        unfold fmEnd at hokk
        simp only [Bool.and_eq_true, beq_iff_eq] at hokk
        obtain ⟨⟨⟨hR1, hR2⟩, hR3⟩, hHQ⟩ := hokk
        have HC := fm_blk 1 N V M (by omega) (by omega) N1 N4 V4 (fmQ N i f) hMi M6 HWQ (.inl hR1) wr ao cap (some ⟨gh, 0, none⟩) M hsv.a.ins hHR
        have hw1 := fm_wfT N V i f N1 N4 V4 c4 f4
        generalize fmR 1 N (numV V) (fmQ N i f) = R at *
        obtain ⟨r1, ⟨pc, st, l0, l1, l2, l3, ou, fu⟩, h⟩ := R
        simp only at hR1 hR2 hR3 hHQ hw1
        subst hR1 hR2 hR3
        have HHQ : Hid _ := hHQ
        have HW1 : Hid _ := hw1
        have HFU : Hid (0 < i) := by show 0 < i; omega
        clear hsv ho hvb HSV8 HO8 HF0 hff HWQ hMi hHR hful hHQ hw1
        go_wp2_with fail
        refine HC.out.mono ?_
        rintro e w10 (⟨_, sa, sc, oa, oc, ha, hc10, rfl, v1, v2, v3, t10, f1, f2, f3⟩ | ⟨h0, _⟩)
        rotate_left
        · simp at h0
        simp only [List.length_cons, List.length_nil, Nat.zero_add] at v1 f1
        have tO : Touch w10 (w10.alloc (.cells (outA 1 ⟨((foneL 1 N (numV V)).length : Int), [numV 10], l0, l1, l2, l3, ou, fu⟩ (.slice sa 1 sc) (.slice oa ou.length oc) (.slice ha h.length hc10) (.slice none 0 0) 0) 51)) [] := (Touch.refl w10 []).alloc _
        have hq : OutB (w10.alloc (.cells (outA 1 ⟨((foneL 1 N (numV V)).length : Int), [numV 10], l0, l1, l2, l3, ou, fu⟩ (.slice sa 1 sc) (.slice oa ou.length oc) (.slice ha h.length hc10) (.slice none 0 0) 0) 51)) w10.heap.size (outA 1 ⟨((foneL 1 N (numV V)).length : Int), [numV 10], l0, l1, l2, l3, ou, fu⟩ (.slice sa 1 sc) (.slice oa ou.length oc) (.slice ha h.length hc10) (.slice none 0 0) 0) := ⟨heap_alloc_new w10 _⟩
        have hs11 := HS.out.keep (t10.trans tO (by simp)) (by simp)
        have ho11 := HO.out.touch (t10.trans tO (by simp)) (by simp) (by simp)
        obtain ⟨b0', b1', b2'⟩ := hs11.a.box.cells
        simp only [outA] at b0' b1' b2'
        have hbW := lt_of_heap HO.out.st
        have hqb : w10.heap.size ∉ [b] := by have := t10.size; simp; omega
        have hfu := HFU.out
        obtain ⟨i0, hi0⟩ : ∃ i0, i = i0 + 1 := ⟨i - 1, by omega⟩
        have hft : fmV i = numV 10 :: (fmV i).tail := by rw [hi0]; unfold fmV; rw [List.range_succ_eq_map]; simp
        have HDO : HidC _ _ _ _ _ := ⟨rdv_take (u := 0) (by omega) (by omega) hft (by omega) ho11⟩
        have HQ11 : Hid _ := hq
        have HQB : Hid _ := hqb
        have HS11 : Hid _ := hs11
        have HV3 : Hid _ := SRow.keep v3 tO (by simp)
        have HV1 : Hid _ := SRow.keep v1 tO (by simp)
        have HF3 : Hid (∀ g, (Value.slice ha h.length hc10).ownBlock = some g → g ∉ [b]) := fun g hg hs => by have := f3 g hg; simp at hs; omega
        have HF1 : Hid (∀ g, (Value.slice sa 1 sc).ownBlock = some g → g ∉ [b]) := fun g hg hs => by have := f1 g hg; simp at hs; omega
        clear hs11 ho11 hq hqb tO t10 v1 v2 v3 f1 f2 f3 HC hbW hfu hft hi0
        go_wp2_with fail
        refine HDO.out.mono ?_
        rintro e w12 ⟨rfl, ⟨v12, ho12, _⟩, t12⟩
        obtain ⟨Y, hY⟩ : ∃ Y, Y = w12.alloc (.cells #[.int .u64 (numV 10), .bool false, .int .i64 0] 43) := ⟨_, rfl⟩
        have tA : Touch w12 Y [] := by rw [hY]; exact (Touch.refl w12 []).alloc _
        have han : Y.heap[w12.heap.size]? = some (.cells #[.int .u64 (numV 10), .bool false, .int .i64 0] 43 (0, 0)) := by rw [hY]; exact heap_alloc_new w12 _
        have tY := t12.trans tA (by simp)
        have hq12 := HQ11.out.touch tY HQB.out
        have q0 := hq12.cell 0
        have q1 := hq12.cell 1
        have q2 := hq12.cell 2
        have q8 := hq12.cell 8
        simp only [outA, List.getElem?_toArray, List.getElem?_cons_zero, List.getElem?_cons_succ] at q0 q1 q2 q8
        have hs12 := HS11.out.keep tY (by have := HBG.out; simp; omega)
        obtain ⟨b0', b1', b2'⟩ := hs12.a.box.cells
        have HT : Hid _ := hs12.a.t
        have hv3 := SRow.keepB HV3.out tY (fun _ g hg => HF3.out g hg)
        have hv1 := SRow.keepB HV1.out tY (fun _ g hg => HF1.out g hg)
        have ho13 := ho12.touch tA (by simp) (by simp)
        have HH : Hid (∀ Z, Touch Y Z [] → HidC Tryd.prog 11 #[.pointer (some ⟨b, 0, none⟩), .slice ha h.length hc10, .int .i64 N] Z fun e w' => e = .returned (.bool true) ∧ Touch Z w' []) := fun Z tz => ⟨rheld_q (ho13.touch tz (by simp) (by simp)) (by simp [fmV_len]; omega) (SRow.keep hv3 tz (by simp)) HW1.out HHQ.out N1 N4⟩
        obtain ⟨a0', a1', a2'⟩ := ans_cells han
        obtain ⟨gs, offs, rfl, -, -⟩ := SRow.at (l := [numV 10]) hv1 0 (by simp)
        have st0 := row_at (l := [numV 10]) hv1 0 (by simp)
        simp only [Nat.add_zero, List.getD_cons_zero] at st0
        have HSS : Hid (∀ Z, Touch Y Z [] → Z.cell? ⟨gs, offs, none⟩ = some (.int .u64 (numV 10)) ∧ Z.cell? ⟨w12.heap.size, 0, none⟩ = some (.int .u64 (numV 10)) ∧ Z.cell? ⟨w10.heap.size, 8, none⟩ = some (.slice ha h.length hc10)) := fun Z tz => by
          have hvz := SRow.keep hv1 tz (by simp)
          have st := row_at (l := [numV 10]) hvz 0 (by simp)
          simp only [Nat.add_zero, List.getD_cons_zero] at st
          have q8z := (hq12.touch tz (by simp)).cell 8
          simp only [outA, List.getElem?_toArray, List.getElem?_cons_zero, List.getElem?_cons_succ] at q8z
          exact ⟨st, (ans_cells ((tz.block _ (lt_of_heap han) (by simp)).trans han)).1, q8z⟩
        have hd0 : Touch Y Y.drew [] := (Touch.refl Y []).drew
        clear hq12 t12 tA hs12 HDO tY han hv3 ho13 ho12 hv1
        subst hY
        go_wp2_with fail
        go_region_held3 (fun Z => Z.cell? ⟨gs, offs, none⟩ = some (.int .u64 (numV 10)) ∧ Z.cell? ⟨w12.heap.size, 0, none⟩ = some (.int .u64 (numV 10)) ∧ Z.cell? ⟨w10.heap.size, 8, none⟩ = some (.slice ha h.length hc10)) ((first | exact HSS.out _ hd0 | exact HSS.out _ hd1)) ((first | (go_at_call 11; refine (HH.out _ hd0).out.mono ?_; rintro e w14 ⟨rfl, t14⟩; have hd1 := hd0.trans t14 (by simp))))
        go_wp2
        go_ret
        exact ⟨rfl, HT.out.trans hd1 (by simp)⟩

set_option maxRecDepth 100000 in
set_option maxHeartbeats 8000000 in
theorem fm_2 {w : World} (hw : Wds w) (k s x0 x1 x2 x3 x4 x5 : Int) (k0 : 0 ≤ k) (k1 : k ≤ 255) (s0 : 0 ≤ s) (s1 : s ≤ 255) (a0 : 0 ≤ x0) (a1 : x0 ≤ 255) (b0 : 0 ≤ x1) (b1 : x1 ≤ 255) (c0 : 0 ≤ x2) (c1 : x2 ≤ 255) (hj : k % 4 = 2) :
    Calls Tryd.prog 3 #[.int .u8 k, .int .u8 s, .agg #[.int .u8 x0, .int .u8 x1, .int .u8 x2, .int .u8 x3, .int .u8 x4, .int .u8 x5]] w fun e w' => e = .returned (.bool true) ∧ Touch w w' [] := by
  obtain ⟨N, hN⟩ : ∃ N : Nat, (N : Int) = s % 4 + 1 := ⟨(s % 4 + 1).toNat, by omega⟩
  obtain ⟨r, hr⟩ : ∃ r : Int, r = s % 4 := ⟨_, rfl⟩
  obtain ⟨V, hV⟩ : ∃ V : Nat, (V : Int) = x0 % 5 := ⟨(x0 % 5).toNat, by omega⟩
  obtain ⟨M, hM⟩ : ∃ M : Nat, M = N + 2 := ⟨_, rfl⟩
  have N1 : 1 ≤ N := by omega
  have N4 : N ≤ 4 := by omega
  have V4 : V ≤ 4 := by omega
  have M6 : M ≤ 6 := by omega
  have M3 : 3 ≤ M := by omega
  have e1 : s.tmod 4 = r := by rw [hr, Int.tmod_eq_emod_of_nonneg s0]
  have e2 : IntKind.i64.wrap s = s := by rw [IntKind.wrap_i64]; omega
  have e3 : IntKind.i64.wrap (r + 1) = (N : Int) := by rw [IntKind.wrap_i64]; omega
  have e4 : IntKind.i64.wrap x0 = x0 := by rw [IntKind.wrap_i64]; omega
  have e5 : x0.tmod 5 = (V : Int) := by rw [Int.tmod_eq_emod_of_nonneg a0, hV]
  have e6 : IntKind.i64.wrap ((N : Int) + 2) = (M : Int) := by rw [IntKind.wrap_i64]; omega
  have e7 : IntKind.i64.wrap x1 = x1 := by rw [IntKind.wrap_i64]; omega
  have e8 : IntKind.i64.wrap x2 = x2 := by rw [IntKind.wrap_i64]; omega
  have e20 : IntKind.i64.wrap r = r := by rw [IntKind.wrap_i64]; omega
  have e21 : IntKind.i64.wrap (V : Int) = V := by rw [IntKind.wrap_i64]; omega
  obtain ⟨a, ha⟩ : ∃ a : Nat, (a : Int) = x1 % 9 := ⟨(x1 % 9).toNat, by omega⟩
  have a8 : a ≤ 8 := by omega
  have e10 : x1.tmod 9 = (a : Int) := by rw [Int.tmod_eq_emod_of_nonneg b0, ha]
  have nV : Wf64 (numV V) := numV_wf' V (by omega) (by omega)
  have rV : rightB (numV V) = true := fm_right V V4
  obtain ⟨Q, hQ⟩ : ∃ Q, Q = w.alloc (.cells #[.int .u8 x0, .int .u8 x1, .int .u8 x2, .int .u8 x3, .int .u8 x4, .int .u8 x5] 22) := ⟨_, rfl⟩
  have tQ : Touch w Q [] := by rw [hQ]; exact (Touch.refl w []).alloc _
  have hx : XBox Q w.heap.size x0 x1 x2 x3 x4 x5 := ⟨by rw [hQ]; exact heap_alloc_new w _⟩
  have hwQ := hw.touch tQ (by simp)
  have H1 : HidC _ _ _ _ _ := ⟨flone_any hwQ k N (numV V) k0 k1 (by omega) (by omega) nV rV⟩
  rw [hj] at H1
  unfold FOneP at H1
  rw [show foneV 2 (numV V) = 0 from rfl] at H1
  have HLV : Hid (∀ W, Touch w W [] → HidC Tryd.prog 6 #[] W fun e w' => e = .returned (.bool true) ∧ Touch W w' []) := fun W t => ⟨fllive_any (hw.touch t (by simp))⟩
  have HIN : Hid (∀ m : Int, -100 ≤ m → m ≤ 1000 → ∀ W, HidC Tryd.prog 4 #[.int .i64 m] W (fun e w' => e = .returned (.tuple #[.int .u64 (numV m), .bool true]) ∧ W = w')) := fun m a b W => ⟨rint_ok m (by omega) (by omega) W⟩
  have HQ : Hid (w.alloc (.cells #[.int .u8 x0, .int .u8 x1, .int .u8 x2, .int .u8 x3, .int .u8 x4, .int .u8 x5] 22) = Q) := hQ.symm
  have HXB : Hid _ := hx
  have HTQ : Hid _ := tQ
  obtain ⟨y0, y1, y2⟩ := hx.cells
  have HMM := make_val M (by omega)
  have HNV : Hid _ := nV
  have HRV : Hid _ := rV
  have HM2 : Hid (M = N + 2) := hM
  clear hQ hx tQ hwQ hw hN hr hV hj nV rV hM ha
  go_enter Tryd.func3, Tryd.ntmps3
  go_wp2_with fail
  rw [HQ.out]
  clear HQ
  refine (HIN.out V (by omega) (by omega) _).out.mono ?_
  rintro e _ ⟨rfl, rfl⟩
  clear y0 y1 y2
  go_wp2_with fail
  refine H1.out.mono ?_
  rintro e w1 ⟨ao, cap, rfl, hin, s1⟩
  have hat := FmAt.new (c := 7) (v := 0) hin (HTQ.out.trans s1 (by simp))
  have hx := HXB.out.touch (s1.alloc (.cells #[.int .u8 7, .int .i64 0, .int .u64 (0)] 30)) (by simp)
  have hL := fone_first 2 N (numV V)
  have hxp : w.heap.size < w1.heap.size := Nat.lt_of_lt_of_le (lt_of_heap HXB.out.st) s1.size
  have HXP : Hid _ := hxp
  generalize hp : w1.heap.size = p at *
  have HA1 : Hid _ := hat
  have HX1 : Hid _ := hx
  clear hat hx hin s1 H1 HXB HTQ hL hxp
  obtain ⟨b0', b1', b2'⟩ := HA1.out.box.cells
  go_wp2_with fail
  generalize w1.alloc (.cells #[.int .u8 7, .int .i64 0, .int .u64 (0)] 30) = Q1 at *
  refine (HLV.out _ HA1.out.t).out.mono ?_
  rintro e w2 ⟨rfl, t2⟩
  clear HLV b0' b1' b2'
  -- the heap, the State
  have tH : Touch w2 (w2.alloc (.cells (Array.replicate M (.int .u64 0)) 24)) [] := (Touch.refl w2 []).alloc _
  have oH := zero_own w2 M (by omega)
  obtain ⟨W3, hW3⟩ : ∃ W3, W3 = (w2.alloc (.cells (Array.replicate M (.int .u64 0)) 24)).alloc (.cells #[.int .i64 0, .slice none 0 0, .int .u64 0, .int .u64 0, .int .u64 (numV V), .int .u64 0, .slice none 0 0] 38) := ⟨_, rfl⟩
  have t3 : Touch (w2.alloc (.cells (Array.replicate M (.int .u64 0)) 24)) W3 [] := by rw [hW3]; exact (Touch.refl _ []).alloc _
  have hs3 : StB W3 (w2.heap.size + 1) ⟨0, [], 0, 0, numV V, 0, [], 0⟩ (.slice none 0 0) (.slice none 0 0) := ⟨by
    have := heap_alloc_new (w2.alloc (.cells (Array.replicate M (.int .u64 0)) 24)) (.cells #[.int .i64 0, .slice none 0 0, .int .u64 0, .int .u64 0, .int .u64 (numV V), .int .u64 0, .slice none 0 0] 38)
    rw [← hW3] at this
    simpa using this⟩
  have oH3 := ownsRow_touch oH t3 (by simp)
  have HPG : Hid (p < w2.heap.size) := Nat.lt_of_lt_of_le HA1.out.lt t2.size
  have hat3 := HA1.out.keep ((t2.trans tH (by simp)).trans t3 (by simp)) (by simp)
  have hx3 := HX1.out.touch ((t2.trans tH (by simp)).trans t3 (by simp)) (by simp)
  have HA3 : Hid _ := hat3
  have HX3 : Hid _ := hx3
  have HS3 : Hid _ := hs3
  have HH3 : Hid _ := oH3
  have HW3 : Hid ((w2.alloc (.cells (Array.replicate M (.int .u64 0)) 24)).alloc (.cells #[.int .i64 0, .slice none 0 0, .int .u64 0, .int .u64 0, .int .u64 (numV V), .int .u64 0, .slice none 0 0] 38) = W3) := hW3.symm
  clear hW3 t3 hs3 oH3 hat3 hx3 tH oH t2 HA1 HX1
  go_wp2_with fail
  rw [HW3.out]
  clear HW3
  have hsv : FmS w W3 ao cap (foneL 2 N (numV V)) p 7 (0) w.heap.size x0 x1 x2 x3 x4 x5 w2.heap.size M (numV V) (List.replicate M 0) := ⟨HA3.out, HX3.out, HS3.out, own_base HH3.out (Nat.zero_le _), HPG.out, HXP.out⟩
  have HSV : Hid _ := hsv
  clear hsv HA3 HX3 HS3 HH3 HPG HXP
  generalize w2.heap.size = gh at *
  refine (rnew_bar N (by omega) (by omega) _).mono ?_
  rintro e w4 ⟨b, rfl, ho, hb, t4⟩
  have hbg : gh + 1 < b := Nat.lt_of_lt_of_le (lt_of_heap HSV.out.s.st) hb
  have hsv := HSV.out.keep t4 (by simp)
  obtain ⟨b0', b1', b2'⟩ := hsv.a.box.cells
  have HSV4 : Hid _ := hsv
  have HO4 : Hid _ := ho
  clear hsv ho hb t4 HSV
  go_wp2_with fail
  have HBG : Hid (gh + 1 < b) := hbg
  obtain ⟨y0, y1, y2⟩ := HSV4.out.x.cells
  have HOB : Hid (RObV w4 b 4 N (-1) ((0 % N : Nat) : Int) ((0 / N : Nat) : Int) (.slice none 0 0) []) := by
    show RObV _ _ _ _ _ _ _ _ _
    rw [Nat.zero_mod, Nat.zero_div]
    exact HO4.out
  clear y0 y1 y2 b0' b1' b2' hbg HO4
  go_loopw [21] (fun vi wr => ∃ (i : Nat) (v' : Value), vi = .int .i64 i ∧ i ≤ a ∧ FmS w wr ao cap (foneL 2 N (numV V)) p 7 (0) w.heap.size x0 x1 x2 x3 x4 x5 gh M (numV V) (List.replicate M 0) ∧ RObV wr b 4 N (-1) ((i % N : Nat) : Int) ((i / N : Nat) : Int) v' []) (fun vi _ => a - (intOf vi).toNat)
  case atStart => exact ⟨0, .slice none 0 0, rfl, Nat.zero_le _, HSV4.out, HOB.out⟩
  case round =>
    obtain ⟨i, v', rfl, hi, hsv, ho⟩ := hrel
    obtain ⟨y0, y1, y2⟩ := hsv.x.cells
    have g4 : IntKind.i64.wrap ((i : Int) + 1) = (i : Int) + 1 := by rw [IntKind.wrap_i64]; omega
    by_cases hic : i < a
    · have hlt : (i : Int) < a := by omega
      have hmod : i % N < N := Nat.mod_lt _ (by omega)
      have hdiv : i / N ≤ 8 := Nat.le_trans (Nat.div_le_self _ _) (by omega)
      have hstep := fmArr_fin ⟨N - 1, by omega⟩ ⟨i, by omega⟩
      simp only [show N - 1 + 1 = N by omega] at hstep
      have HS2 : Hid _ := hsv
      obtain ⟨im, him⟩ : ∃ q : Nat, q = i % N := ⟨_, rfl⟩
      obtain ⟨idv, hid⟩ : ∃ q : Nat, q = i / N := ⟨_, rfl⟩
      rw [← him, ← hid] at ho hstep
      rw [← him] at hmod
      rw [← hid] at hdiv
      clear him hid
      by_cases hone : im + 1 = N
      · rw [if_pos hone] at hstep
        have HDO : HidC _ _ _ _ _ := ⟨rdv_arrived (s := (N : Int)) (u := 0) (n := (im : Int)) (g := (idv : Int)) (by omega) (by omega) (by omega) (by omega) (by omega) (by omega) ho⟩
        have HST : Hid _ := hstep
        clear hsv ho hmod hdiv hstep hone
        go_wp2_with fail
        refine HDO.out.mono ?_
        rintro e w9 ⟨rfl, ⟨v9, ho9, _⟩, t9⟩
        have hs9 := HS2.out.keep t9 (by have := HBG.out; simp; omega)
        have HS9 : Hid _ := hs9
        have HO9 : Hid _ := ho9
        clear hs9 ho9 t9 HDO y0 y1 y2
        go_wp2_with fail
        go_roundw
        case rel => exact ⟨i + 1, v9, by go_num, by omega, HS9.out, by have h := HO9.out; obtain ⟨q1, q2⟩ := HST.out; rw [q1, q2]; exact h⟩
        case measure => simp [intOf]; omega
      · rw [if_neg hone] at hstep
        have HDO : HidC _ _ _ _ _ := ⟨rdv_arrive (s := (N : Int)) (u := 0) (n := (im : Int)) (g := (idv : Int)) (by omega) (by omega) (by omega) (by omega) (by omega) (by omega) ho⟩
        have HST : Hid _ := hstep
        clear hsv ho hmod hdiv hstep hone
        go_wp2_with fail
        refine HDO.out.mono ?_
        rintro e w9 ⟨rfl, ⟨v9, ho9, _⟩, t9⟩
        have hs9 := HS2.out.keep t9 (by have := HBG.out; simp; omega)
        have HS9 : Hid _ := hs9
        have HO9 : Hid _ := ho9
        clear hs9 ho9 t9 HDO y0 y1 y2
        go_wp2_with fail
        go_roundw
        case rel => exact ⟨i + 1, v9, by go_num, by omega, HS9.out, by have h := HO9.out; obtain ⟨q1, q2⟩ := HST.out; rw [q1, q2]; exact h⟩
        case measure => simp [intOf]; omega
    · have hge : decide ((i : Int) < a) = false := decide_eq_false (by omega)
      obtain rfl : i = a := by omega
      obtain ⟨im, him⟩ : ∃ q : Nat, q = i % N := ⟨_, rfl⟩
      obtain ⟨idv, hid⟩ : ∃ q : Nat, q = i / N := ⟨_, rfl⟩
      have hmod : im < N := by rw [him]; exact Nat.mod_lt _ (by omega)
      have hdiv : idv ≤ 8 := by rw [hid]; exact Nat.le_trans (Nat.div_le_self _ _) (by omega)
      have HFB : Hid (((List.replicate M (0 : Int)).set 0 (numV im)).set 1 (numV idv) = fmB N i) := by
        show _ = _
        have := fmB_fin ⟨N - 1, by omega⟩ ⟨i, by omega⟩
        simp only [show N - 1 + 1 = N by omega] at this
        rw [him, hid, HM2.out]
        exact this
      rw [← him, ← hid] at ho
      have HIM : Hid (im = i % N ∧ idv = i / N) := ⟨him, hid⟩
      have HS : Hid _ := hsv
      have HO : Hid _ := ho
      have hM3 := HM2.out
      have hg0 : (0 : Int) < M := by omega
      have hg1 : (1 : Int) < M := by omega
      clear hsv ho HSV4 HOB him hid hM3
      go_wp2_with fail
      refine (rshapev_any HO.out (by simp)).mono ?_
      rintro e w10 ⟨av, cv, rfl, _, _, t10⟩
      have hs10 := HS.out.keep t10 (by simp)
      have ho10 := HO.out.touch t10 (by simp) (by simp)
      have z0 := own_at hs10.h 0 (by omega)
      have zf := own_frV hs10.h 0
      have hsv := (hs10.set 0 (numV im)).1
      have ho := ho10.touch (hs10.set 0 (numV im)).2 (by have := HBG.out; simp; omega) (by simp)
      have HS11 : Hid _ := hsv
      have HO11 : Hid _ := ho
      clear hsv ho hs10 ho10 t10 HS HO y0 y1 y2
      have hsf1 := shape_f1
      have hsf2 := shape_f2
      go_wp2_with fail
      refine (HIN.out im (by omega) (by omega) _).out.mono ?_
      rintro e _ ⟨rfl, rfl⟩
      go_wp2_with fail
      generalize w10.setCell ⟨gh, 0, none⟩ (.int .u64 (numV im)) = w11 at *
      clear z0 zf
      refine (rshapev_any HO11.out (by simp)).mono ?_
      rintro e w12 ⟨av2, cv2, rfl, _, _, t12⟩
      have hs12 := HS11.out.keep t12 (by simp)
      have ho12 := HO11.out.touch t12 (by simp) (by simp)
      have z1 := own_at hs12.h 1 (by omega)
      have zg := own_frV hs12.h 1
      have hsv := (hs12.set 1 (numV idv)).1
      have ho := ho12.touch (hs12.set 1 (numV idv)).2 (by have := HBG.out; simp; omega) (by simp)
      rw [HFB.out] at hsv
      have HS13 : Hid _ := hsv
      have HO13 : Hid _ := ho
      clear hsv ho hs12 ho12 t12 HS11 HO11
      go_wp2_with fail
      refine (HIN.out idv (by omega) (by omega) _).out.mono ?_
      rintro e _ ⟨rfl, rfl⟩
      obtain ⟨b0', b1', b2'⟩ := HS13.out.a.box.cells
      obtain ⟨s0', s1', s2', s3', s4', s5', s6'⟩ := HS13.out.s.cells
      simp only at s0' s1' s2' s3' s4' s5' s6'
      have HWQ := fm_wfB N i N1 N4 (by omega)
      have hokk := fm_okA N V i N1 N4 V4 (by omega)
      have hMi : (fmB N i).length = M := by rw [fmB_len, HM2.out]
      have hHR : VRow (w12.setCell ⟨gh, 1, none⟩ (.int .u64 (numV idv))) (.slice (some ⟨gh, 0, none⟩) M M) (fmB N i) := by
        have := vrow_of HS13.out.h
        exact this
      unfold fmOkA at hokk
      obtain ⟨hm1, hm2⟩ := HIM.out
      rw [← hm1, ← hm2] at hokk
      clear hm1 hm2
      by_cases hone : im + 1 = N
      · -- it goes on
        rw [if_pos hone] at hokk
        have HONE : Hid (im + 1 = N) := hone
        clear hone
        unfold fmEnd at hokk
        simp only [Bool.and_eq_true, beq_iff_eq] at hokk
        obtain ⟨⟨⟨hR1, hR2⟩, hR3⟩, hHQ⟩ := hokk
        have HC := fm_blk 2 N V M (by omega) (by omega) N1 N4 V4 (fmB N i) hMi M6 HWQ (.inl hR1) (w12.setCell ⟨gh, 1, none⟩ (.int .u64 (numV idv))) ao cap (some ⟨gh, 0, none⟩) M HS13.out.a.ins hHR
        generalize fmR 2 N (numV V) (fmB N i) = R at *
        obtain ⟨r1, ⟨pc, st, l0, l1, l2, l3, ou, fu⟩, h⟩ := R
        simp only at hR1 hR2 hR3 hHQ
        subst hR1 hR2 hR3
        have HHQ : Hid _ := hHQ
        clear HFB HWQ hMi hHR hHQ
        go_wp2_with fail
        refine HC.out.mono ?_
        rintro e w10 (⟨_, sa, sc, oa, oc, ha, hc10, rfl, v1, v2, v3, t10, f1, f2, f3⟩ | ⟨h0, _⟩)
        rotate_left
        · simp at h0
        simp only [List.length_cons, List.length_nil, Nat.zero_add] at v1 f1
        have tO : Touch w10 (w10.alloc (.cells (outA 1 ⟨((foneL 2 N (numV V)).length : Int), [numV idv], l0, l1, l2, l3, ou, fu⟩ (.slice sa 1 sc) (.slice oa ou.length oc) (.slice ha h.length hc10) (.slice none 0 0) 0) 51)) [] := (Touch.refl w10 []).alloc _
        have hq : OutB (w10.alloc (.cells (outA 1 ⟨((foneL 2 N (numV V)).length : Int), [numV idv], l0, l1, l2, l3, ou, fu⟩ (.slice sa 1 sc) (.slice oa ou.length oc) (.slice ha h.length hc10) (.slice none 0 0) 0) 51)) w10.heap.size (outA 1 ⟨((foneL 2 N (numV V)).length : Int), [numV idv], l0, l1, l2, l3, ou, fu⟩ (.slice sa 1 sc) (.slice oa ou.length oc) (.slice ha h.length hc10) (.slice none 0 0) 0) := ⟨heap_alloc_new w10 _⟩
        have hs11 := HS13.out.keep (t10.trans tO (by simp)) (by simp)
        have ho11 := HO13.out.touch (t10.trans tO (by simp)) (by simp) (by simp)
        obtain ⟨b0', b1', b2'⟩ := hs11.a.box.cells
        simp only [outA] at b0' b1' b2'
        have hbW := lt_of_heap HO13.out.st
        have hqb : w10.heap.size ∉ [b] := by have := t10.size; simp; omega
        have hone := HONE.out
        have HDO : HidC _ _ _ _ _ := ⟨rdv_arrived (s := (N : Int)) (u := 0) (n := (im : Int)) (g := (idv : Int)) (by omega) (by omega) (by omega) (by omega) (by omega) (by omega) ho11⟩
        have HQ11 : Hid _ := hq
        have HQB : Hid _ := hqb
        have HS11 : Hid _ := hs11
        have HV3 : Hid _ := SRow.keep v3 tO (by simp)
        have HV1 : Hid _ := SRow.keep v1 tO (by simp)
        have HF3 : Hid (∀ g, (Value.slice ha h.length hc10).ownBlock = some g → g ∉ [b]) := fun g hg hs => by have := f3 g hg; simp at hs; omega
        have HF1 : Hid (∀ g, (Value.slice sa 1 sc).ownBlock = some g → g ∉ [b]) := fun g hg hs => by have := f1 g hg; simp at hs; omega
        clear hs11 ho11 hq hqb tO t10 v1 v2 v3 f1 f2 f3 HC hbW hone
        go_wp2_with fail
        refine HDO.out.mono ?_
        rintro e w12 ⟨rfl, ⟨v12, ho12, _⟩, t12⟩
        obtain ⟨Y, hY⟩ : ∃ Y, Y = w12.alloc (.cells #[.int .u64 (numV idv), .bool false, .int .i64 0] 43) := ⟨_, rfl⟩
        have tA : Touch w12 Y [] := by rw [hY]; exact (Touch.refl w12 []).alloc _
        have han : Y.heap[w12.heap.size]? = some (.cells #[.int .u64 (numV idv), .bool false, .int .i64 0] 43 (0, 0)) := by rw [hY]; exact heap_alloc_new w12 _
        have tY := t12.trans tA (by simp)
        have hq12 := HQ11.out.touch tY HQB.out
        have q0 := hq12.cell 0
        have q1 := hq12.cell 1
        have q2 := hq12.cell 2
        have q8 := hq12.cell 8
        simp only [outA, List.getElem?_toArray, List.getElem?_cons_zero, List.getElem?_cons_succ] at q0 q1 q2 q8
        have hs12 := HS11.out.keep tY (by have := HBG.out; simp; omega)
        obtain ⟨b0', b1', b2'⟩ := hs12.a.box.cells
        have HT : Hid _ := hs12.a.t
        have hv3 := SRow.keepB HV3.out tY (fun _ g hg => HF3.out g hg)
        have hv1 := SRow.keepB HV1.out tY (fun _ g hg => HF1.out g hg)
        have ho13 := ho12.touch tA (by simp) (by simp)
        have HH : Hid (∀ Z, Touch Y Z [] → HidC Tryd.prog 11 #[.pointer (some ⟨b, 0, none⟩), .slice ha h.length hc10, .int .i64 N] Z fun e w' => e = .returned (.bool true) ∧ Touch Z w' []) := fun Z tz => ⟨rheld_bar (ho13.touch tz (by simp) (by simp)) (by simp) (SRow.keep hv3 tz (by simp)) HHQ.out (by omega) (by omega) N⟩
        obtain ⟨a0', a1', a2'⟩ := ans_cells han
        obtain ⟨gs, offs, rfl, -, -⟩ := SRow.at (l := [numV idv]) hv1 0 (by simp)
        have st0 := row_at (l := [numV idv]) hv1 0 (by simp)
        simp only [Nat.add_zero, List.getD_cons_zero] at st0
        have HSS : Hid (∀ Z, Touch Y Z [] → Z.cell? ⟨gs, offs, none⟩ = some (.int .u64 (numV idv)) ∧ Z.cell? ⟨w12.heap.size, 0, none⟩ = some (.int .u64 (numV idv)) ∧ Z.cell? ⟨w10.heap.size, 8, none⟩ = some (.slice ha h.length hc10)) := fun Z tz => by
          have hvz := SRow.keep hv1 tz (by simp)
          have st := row_at (l := [numV idv]) hvz 0 (by simp)
          simp only [Nat.add_zero, List.getD_cons_zero] at st
          have q8z := (hq12.touch tz (by simp)).cell 8
          simp only [outA, List.getElem?_toArray, List.getElem?_cons_zero, List.getElem?_cons_succ] at q8z
          exact ⟨st, (ans_cells ((tz.block _ (lt_of_heap han) (by simp)).trans han)).1, q8z⟩
        have hd0 : Touch Y Y.drew [] := (Touch.refl Y []).drew
        clear hq12 t12 tA hs12 HDO tY han hv3 ho13 ho12 hv1
        subst hY
        go_wp2_with fail
        go_region_held3 (fun Z => Z.cell? ⟨gs, offs, none⟩ = some (.int .u64 (numV idv)) ∧ Z.cell? ⟨w12.heap.size, 0, none⟩ = some (.int .u64 (numV idv)) ∧ Z.cell? ⟨w10.heap.size, 8, none⟩ = some (.slice ha h.length hc10)) ((first | exact HSS.out _ hd0 | exact HSS.out _ hd1)) ((first | (go_at_call 11; refine (HH.out _ hd0).out.mono ?_; rintro e w14 ⟨rfl, t14⟩; have hd1 := hd0.trans t14 (by simp))))
        go_wp2
        go_ret
        exact ⟨rfl, HT.out.trans hd1 (by simp)⟩

      · -- it goes on
        rw [if_neg hone] at hokk
        have HONE : Hid (im + 1 < N) := by show im + 1 < N; omega
        clear hone
        unfold fmEnd at hokk
        simp only [Bool.and_eq_true, beq_iff_eq] at hokk
        obtain ⟨⟨⟨hR1, hR2⟩, hR3⟩, hHQ⟩ := hokk
        have HC := fm_blk 2 N V M (by omega) (by omega) N1 N4 V4 (fmB N i) hMi M6 HWQ (.inl hR1) (w12.setCell ⟨gh, 1, none⟩ (.int .u64 (numV idv))) ao cap (some ⟨gh, 0, none⟩) M HS13.out.a.ins hHR
        generalize fmR 2 N (numV V) (fmB N i) = R at *
        obtain ⟨r1, ⟨pc, st, l0, l1, l2, l3, ou, fu⟩, h⟩ := R
        simp only at hR1 hR2 hR3 hHQ
        subst hR1 hR2 hR3
        have HHQ : Hid _ := hHQ
        clear HFB HWQ hMi hHR hHQ
        go_wp2_with fail
        refine HC.out.mono ?_
        rintro e w10 (⟨_, sa, sc, oa, oc, ha, hc10, rfl, v1, v2, v3, t10, f1, f2, f3⟩ | ⟨h0, _⟩)
        rotate_left
        · simp at h0
        simp only [List.length_cons, List.length_nil, Nat.zero_add] at v1 f1
        have tO : Touch w10 (w10.alloc (.cells (outA 1 ⟨((foneL 2 N (numV V)).length : Int), [numV idv], l0, l1, l2, l3, ou, fu⟩ (.slice sa 1 sc) (.slice oa ou.length oc) (.slice ha h.length hc10) (.slice none 0 0) 0) 51)) [] := (Touch.refl w10 []).alloc _
        have hq : OutB (w10.alloc (.cells (outA 1 ⟨((foneL 2 N (numV V)).length : Int), [numV idv], l0, l1, l2, l3, ou, fu⟩ (.slice sa 1 sc) (.slice oa ou.length oc) (.slice ha h.length hc10) (.slice none 0 0) 0) 51)) w10.heap.size (outA 1 ⟨((foneL 2 N (numV V)).length : Int), [numV idv], l0, l1, l2, l3, ou, fu⟩ (.slice sa 1 sc) (.slice oa ou.length oc) (.slice ha h.length hc10) (.slice none 0 0) 0) := ⟨heap_alloc_new w10 _⟩
        have hs11 := HS13.out.keep (t10.trans tO (by simp)) (by simp)
        have ho11 := HO13.out.touch (t10.trans tO (by simp)) (by simp) (by simp)
        obtain ⟨b0', b1', b2'⟩ := hs11.a.box.cells
        simp only [outA] at b0' b1' b2'
        have hbW := lt_of_heap HO13.out.st
        have hqb : w10.heap.size ∉ [b] := by have := t10.size; simp; omega
        have hone := HONE.out
        have HDO : HidC _ _ _ _ _ := ⟨rdv_arrive (s := (N : Int)) (u := 0) (n := (im : Int)) (g := (idv : Int)) (by omega) (by omega) (by omega) (by omega) (by omega) (by omega) ho11⟩
        have HQ11 : Hid _ := hq
        have HQB : Hid _ := hqb
        have HS11 : Hid _ := hs11
        have HV3 : Hid _ := SRow.keep v3 tO (by simp)
        have HV1 : Hid _ := SRow.keep v1 tO (by simp)
        have HF3 : Hid (∀ g, (Value.slice ha h.length hc10).ownBlock = some g → g ∉ [b]) := fun g hg hs => by have := f3 g hg; simp at hs; omega
        have HF1 : Hid (∀ g, (Value.slice sa 1 sc).ownBlock = some g → g ∉ [b]) := fun g hg hs => by have := f1 g hg; simp at hs; omega
        clear hs11 ho11 hq hqb tO t10 v1 v2 v3 f1 f2 f3 HC hbW hone
        go_wp2_with fail
        refine HDO.out.mono ?_
        rintro e w12 ⟨rfl, ⟨v12, ho12, _⟩, t12⟩
        obtain ⟨Y, hY⟩ : ∃ Y, Y = w12.alloc (.cells #[.int .u64 (numV idv), .bool false, .int .i64 0] 43) := ⟨_, rfl⟩
        have tA : Touch w12 Y [] := by rw [hY]; exact (Touch.refl w12 []).alloc _
        have han : Y.heap[w12.heap.size]? = some (.cells #[.int .u64 (numV idv), .bool false, .int .i64 0] 43 (0, 0)) := by rw [hY]; exact heap_alloc_new w12 _
        have tY := t12.trans tA (by simp)
        have hq12 := HQ11.out.touch tY HQB.out
        have q0 := hq12.cell 0
        have q1 := hq12.cell 1
        have q2 := hq12.cell 2
        have q8 := hq12.cell 8
        simp only [outA, List.getElem?_toArray, List.getElem?_cons_zero, List.getElem?_cons_succ] at q0 q1 q2 q8
        have hs12 := HS11.out.keep tY (by have := HBG.out; simp; omega)
        obtain ⟨b0', b1', b2'⟩ := hs12.a.box.cells
        have HT : Hid _ := hs12.a.t
        have hv3 := SRow.keepB HV3.out tY (fun _ g hg => HF3.out g hg)
        have hv1 := SRow.keepB HV1.out tY (fun _ g hg => HF1.out g hg)
        have ho13 := ho12.touch tA (by simp) (by simp)
        have HH : Hid (∀ Z, Touch Y Z [] → HidC Tryd.prog 11 #[.pointer (some ⟨b, 0, none⟩), .slice ha h.length hc10, .int .i64 N] Z fun e w' => e = .returned (.bool true) ∧ Touch Z w' []) := fun Z tz => ⟨rheld_bar (ho13.touch tz (by simp) (by simp)) (by simp) (SRow.keep hv3 tz (by simp)) HHQ.out (by omega) (by omega) N⟩
        obtain ⟨a0', a1', a2'⟩ := ans_cells han
        obtain ⟨gs, offs, rfl, -, -⟩ := SRow.at (l := [numV idv]) hv1 0 (by simp)
        have st0 := row_at (l := [numV idv]) hv1 0 (by simp)
        simp only [Nat.add_zero, List.getD_cons_zero] at st0
        have HSS : Hid (∀ Z, Touch Y Z [] → Z.cell? ⟨gs, offs, none⟩ = some (.int .u64 (numV idv)) ∧ Z.cell? ⟨w12.heap.size, 0, none⟩ = some (.int .u64 (numV idv)) ∧ Z.cell? ⟨w10.heap.size, 8, none⟩ = some (.slice ha h.length hc10)) := fun Z tz => by
          have hvz := SRow.keep hv1 tz (by simp)
          have st := row_at (l := [numV idv]) hvz 0 (by simp)
          simp only [Nat.add_zero, List.getD_cons_zero] at st
          have q8z := (hq12.touch tz (by simp)).cell 8
          simp only [outA, List.getElem?_toArray, List.getElem?_cons_zero, List.getElem?_cons_succ] at q8z
          exact ⟨st, (ans_cells ((tz.block _ (lt_of_heap han) (by simp)).trans han)).1, q8z⟩
        have hd0 : Touch Y Y.drew [] := (Touch.refl Y []).drew
        clear hq12 t12 tA hs12 HDO tY han hv3 ho13 ho12 hv1
        subst hY
        go_wp2_with fail
        go_region_held3 (fun Z => Z.cell? ⟨gs, offs, none⟩ = some (.int .u64 (numV idv)) ∧ Z.cell? ⟨w12.heap.size, 0, none⟩ = some (.int .u64 (numV idv)) ∧ Z.cell? ⟨w10.heap.size, 8, none⟩ = some (.slice ha h.length hc10)) ((first | exact HSS.out _ hd0 | exact HSS.out _ hd1)) ((first | (go_at_call 11; refine (HH.out _ hd0).out.mono ?_; rintro e w14 ⟨rfl, t14⟩; have hd1 := hd0.trans t14 (by simp))))
        go_wp2
        go_ret
        exact ⟨rfl, HT.out.trans hd1 (by simp)⟩


set_option maxRecDepth 100000 in
set_option maxHeartbeats 8000000 in
theorem fm_3 {w : World} (hw : Wds w) (k s x0 x1 x2 x3 x4 x5 : Int) (k0 : 0 ≤ k) (k1 : k ≤ 255) (s0 : 0 ≤ s) (s1 : s ≤ 255) (a0 : 0 ≤ x0) (a1 : x0 ≤ 255) (b0 : 0 ≤ x1) (b1 : x1 ≤ 255) (c0 : 0 ≤ x2) (c1 : x2 ≤ 255) (hj : k % 4 = 3) :
    Calls Tryd.prog 3 #[.int .u8 k, .int .u8 s, .agg #[.int .u8 x0, .int .u8 x1, .int .u8 x2, .int .u8 x3, .int .u8 x4, .int .u8 x5]] w fun e w' => e = .returned (.bool true) ∧ Touch w w' [] := by
  obtain ⟨N, hN⟩ : ∃ N : Nat, (N : Int) = s % 4 + 1 := ⟨(s % 4 + 1).toNat, by omega⟩
  obtain ⟨r, hr⟩ : ∃ r : Int, r = s % 4 := ⟨_, rfl⟩
  obtain ⟨V, hV⟩ : ∃ V : Nat, (V : Int) = x0 % 5 := ⟨(x0 % 5).toNat, by omega⟩
  obtain ⟨M, hM⟩ : ∃ M : Nat, M = N + 2 := ⟨_, rfl⟩
  have N1 : 1 ≤ N := by omega
  have N4 : N ≤ 4 := by omega
  have V4 : V ≤ 4 := by omega
  have M6 : M ≤ 6 := by omega
  have M3 : 3 ≤ M := by omega
  have e1 : s.tmod 4 = r := by rw [hr, Int.tmod_eq_emod_of_nonneg s0]
  have e2 : IntKind.i64.wrap s = s := by rw [IntKind.wrap_i64]; omega
  have e3 : IntKind.i64.wrap (r + 1) = (N : Int) := by rw [IntKind.wrap_i64]; omega
  have e4 : IntKind.i64.wrap x0 = x0 := by rw [IntKind.wrap_i64]; omega
  have e5 : x0.tmod 5 = (V : Int) := by rw [Int.tmod_eq_emod_of_nonneg a0, hV]
  have e6 : IntKind.i64.wrap ((N : Int) + 2) = (M : Int) := by rw [IntKind.wrap_i64]; omega
  have e7 : IntKind.i64.wrap x1 = x1 := by rw [IntKind.wrap_i64]; omega
  have e8 : IntKind.i64.wrap x2 = x2 := by rw [IntKind.wrap_i64]; omega
  have e20 : IntKind.i64.wrap r = r := by rw [IntKind.wrap_i64]; omega
  have e21 : IntKind.i64.wrap (V : Int) = V := by rw [IntKind.wrap_i64]; omega
  obtain ⟨a, ha⟩ : ∃ a : Nat, (a : Int) = x1 % 9 := ⟨(x1 % 9).toNat, by omega⟩
  have a8 : a ≤ 8 := by omega
  have e10 : x1.tmod 9 = (a : Int) := by rw [Int.tmod_eq_emod_of_nonneg b0, ha]
  have nV : Wf64 (numV V) := numV_wf' V (by omega) (by omega)
  have rV : rightB (numV V) = true := fm_right V V4
  obtain ⟨Q, hQ⟩ : ∃ Q, Q = w.alloc (.cells #[.int .u8 x0, .int .u8 x1, .int .u8 x2, .int .u8 x3, .int .u8 x4, .int .u8 x5] 22) := ⟨_, rfl⟩
  have tQ : Touch w Q [] := by rw [hQ]; exact (Touch.refl w []).alloc _
  have hx : XBox Q w.heap.size x0 x1 x2 x3 x4 x5 := ⟨by rw [hQ]; exact heap_alloc_new w _⟩
  have hwQ := hw.touch tQ (by simp)
  have H1 : HidC _ _ _ _ _ := ⟨flone_any hwQ k N (numV V) k0 k1 (by omega) (by omega) nV rV⟩
  rw [hj] at H1
  unfold FOneP at H1
  rw [show foneV 3 (numV V) = numV V from rfl] at H1
  have HLV : Hid (∀ W, Touch w W [] → HidC Tryd.prog 6 #[] W fun e w' => e = .returned (.bool true) ∧ Touch W w' []) := fun W t => ⟨fllive_any (hw.touch t (by simp))⟩
  have HIN : Hid (∀ m : Int, -100 ≤ m → m ≤ 1000 → ∀ W, HidC Tryd.prog 4 #[.int .i64 m] W (fun e w' => e = .returned (.tuple #[.int .u64 (numV m), .bool true]) ∧ W = w')) := fun m a b W => ⟨rint_ok m (by omega) (by omega) W⟩
  have HQ : Hid (w.alloc (.cells #[.int .u8 x0, .int .u8 x1, .int .u8 x2, .int .u8 x3, .int .u8 x4, .int .u8 x5] 22) = Q) := hQ.symm
  have HXB : Hid _ := hx
  have HTQ : Hid _ := tQ
  obtain ⟨y0, y1, y2⟩ := hx.cells
  have HMM := make_val M (by omega)
  have HNV : Hid _ := nV
  have HRV : Hid _ := rV
  have HM2 : Hid (M = N + 2) := hM
  clear hQ hx tQ hwQ hw hN hr hV hj nV rV hM ha
  go_enter Tryd.func3, Tryd.ntmps3
  go_wp2_with fail
  rw [HQ.out]
  clear HQ
  refine (HIN.out V (by omega) (by omega) _).out.mono ?_
  rintro e _ ⟨rfl, rfl⟩
  clear y0 y1 y2
  go_wp2_with fail
  refine H1.out.mono ?_
  rintro e w1 ⟨ao, cap, rfl, hin, s1⟩
  have hat := FmAt.new (c := 8) (v := numV V) hin (HTQ.out.trans s1 (by simp))
  have hx := HXB.out.touch (s1.alloc (.cells #[.int .u8 8, .int .i64 0, .int .u64 (numV V)] 30)) (by simp)
  have hL := fone_first 3 N (numV V)
  have hxp : w.heap.size < w1.heap.size := Nat.lt_of_lt_of_le (lt_of_heap HXB.out.st) s1.size
  have HXP : Hid _ := hxp
  generalize hp : w1.heap.size = p at *
  have HA1 : Hid _ := hat
  have HX1 : Hid _ := hx
  clear hat hx hin s1 H1 HXB HTQ hL hxp
  obtain ⟨b0', b1', b2'⟩ := HA1.out.box.cells
  go_wp2_with fail
  generalize w1.alloc (.cells #[.int .u8 8, .int .i64 0, .int .u64 (numV V)] 30) = Q1 at *
  refine (HLV.out _ HA1.out.t).out.mono ?_
  rintro e w2 ⟨rfl, t2⟩
  clear HLV b0' b1' b2'
  -- the heap, the State
  have tH : Touch w2 (w2.alloc (.cells (Array.replicate M (.int .u64 0)) 24)) [] := (Touch.refl w2 []).alloc _
  have oH := zero_own w2 M (by omega)
  obtain ⟨W3, hW3⟩ : ∃ W3, W3 = (w2.alloc (.cells (Array.replicate M (.int .u64 0)) 24)).alloc (.cells #[.int .i64 0, .slice none 0 0, .int .u64 0, .int .u64 0, .int .u64 (numV V), .int .u64 0, .slice none 0 0] 38) := ⟨_, rfl⟩
  have t3 : Touch (w2.alloc (.cells (Array.replicate M (.int .u64 0)) 24)) W3 [] := by rw [hW3]; exact (Touch.refl _ []).alloc _
  have hs3 : StB W3 (w2.heap.size + 1) ⟨0, [], 0, 0, numV V, 0, [], 0⟩ (.slice none 0 0) (.slice none 0 0) := ⟨by
    have := heap_alloc_new (w2.alloc (.cells (Array.replicate M (.int .u64 0)) 24)) (.cells #[.int .i64 0, .slice none 0 0, .int .u64 0, .int .u64 0, .int .u64 (numV V), .int .u64 0, .slice none 0 0] 38)
    rw [← hW3] at this
    simpa using this⟩
  have oH3 := ownsRow_touch oH t3 (by simp)
  have HPG : Hid (p < w2.heap.size) := Nat.lt_of_lt_of_le HA1.out.lt t2.size
  have hat3 := HA1.out.keep ((t2.trans tH (by simp)).trans t3 (by simp)) (by simp)
  have hx3 := HX1.out.touch ((t2.trans tH (by simp)).trans t3 (by simp)) (by simp)
  have HA3 : Hid _ := hat3
  have HX3 : Hid _ := hx3
  have HS3 : Hid _ := hs3
  have HH3 : Hid _ := oH3
  have HW3 : Hid ((w2.alloc (.cells (Array.replicate M (.int .u64 0)) 24)).alloc (.cells #[.int .i64 0, .slice none 0 0, .int .u64 0, .int .u64 0, .int .u64 (numV V), .int .u64 0, .slice none 0 0] 38) = W3) := hW3.symm
  clear hW3 t3 hs3 oH3 hat3 hx3 tH oH t2 HA1 HX1
  go_wp2_with fail
  rw [HW3.out]
  clear HW3
  have hsv : FmS w W3 ao cap (foneL 3 N (numV V)) p 8 (numV V) w.heap.size x0 x1 x2 x3 x4 x5 w2.heap.size M (numV V) (List.replicate M 0) := ⟨HA3.out, HX3.out, HS3.out, own_base HH3.out (Nat.zero_le _), HPG.out, HXP.out⟩
  have HSV : Hid _ := hsv
  clear hsv HA3 HX3 HS3 HH3 HPG HXP
  generalize w2.heap.size = gh at *
  refine (rnew_bar N (by omega) (by omega) _).mono ?_
  rintro e w4 ⟨b, rfl, ho, hb, t4⟩
  have hbg : gh + 1 < b := Nat.lt_of_lt_of_le (lt_of_heap HSV.out.s.st) hb
  have hsv := HSV.out.keep t4 (by simp)
  obtain ⟨b0', b1', b2'⟩ := hsv.a.box.cells
  have HSV4 : Hid _ := hsv
  have HO4 : Hid _ := ho
  clear hsv ho hb t4 HSV
  go_wp2_with fail
  have HBG : Hid (gh + 1 < b) := hbg
  obtain ⟨y0, y1, y2⟩ := HSV4.out.x.cells
  have HOB : Hid (RObV w4 b 4 N (-1) ((0 % N : Nat) : Int) ((0 / N : Nat) : Int) (.slice none 0 0) []) := by
    show RObV _ _ _ _ _ _ _ _ _
    rw [Nat.zero_mod, Nat.zero_div]
    exact HO4.out
  clear y0 y1 y2 b0' b1' b2' hbg HO4
  go_loopw [21] (fun vi wr => ∃ (i : Nat) (v' : Value), vi = .int .i64 i ∧ i ≤ a ∧ FmS w wr ao cap (foneL 3 N (numV V)) p 8 (numV V) w.heap.size x0 x1 x2 x3 x4 x5 gh M (numV V) (List.replicate M 0) ∧ RObV wr b 4 N (-1) ((i % N : Nat) : Int) ((i / N : Nat) : Int) v' []) (fun vi _ => a - (intOf vi).toNat)
  case atStart => exact ⟨0, .slice none 0 0, rfl, Nat.zero_le _, HSV4.out, HOB.out⟩
  case round =>
    obtain ⟨i, v', rfl, hi, hsv, ho⟩ := hrel
    obtain ⟨y0, y1, y2⟩ := hsv.x.cells
    have g4 : IntKind.i64.wrap ((i : Int) + 1) = (i : Int) + 1 := by rw [IntKind.wrap_i64]; omega
    by_cases hic : i < a
    · have hlt : (i : Int) < a := by omega
      have hmod : i % N < N := Nat.mod_lt _ (by omega)
      have hdiv : i / N ≤ 8 := Nat.le_trans (Nat.div_le_self _ _) (by omega)
      have hstep := fmArr_fin ⟨N - 1, by omega⟩ ⟨i, by omega⟩
      simp only [show N - 1 + 1 = N by omega] at hstep
      have HS2 : Hid _ := hsv
      obtain ⟨im, him⟩ : ∃ q : Nat, q = i % N := ⟨_, rfl⟩
      obtain ⟨idv, hid⟩ : ∃ q : Nat, q = i / N := ⟨_, rfl⟩
      rw [← him, ← hid] at ho hstep
      rw [← him] at hmod
      rw [← hid] at hdiv
      clear him hid
      by_cases hone : im + 1 = N
      · rw [if_pos hone] at hstep
        have HDO : HidC _ _ _ _ _ := ⟨rdv_arrived (s := (N : Int)) (u := 0) (n := (im : Int)) (g := (idv : Int)) (by omega) (by omega) (by omega) (by omega) (by omega) (by omega) ho⟩
        have HST : Hid _ := hstep
        clear hsv ho hmod hdiv hstep hone
        go_wp2_with fail
        refine HDO.out.mono ?_
        rintro e w9 ⟨rfl, ⟨v9, ho9, _⟩, t9⟩
        have hs9 := HS2.out.keep t9 (by have := HBG.out; simp; omega)
        have HS9 : Hid _ := hs9
        have HO9 : Hid _ := ho9
        clear hs9 ho9 t9 HDO y0 y1 y2
        go_wp2_with fail
        go_roundw
        case rel => exact ⟨i + 1, v9, by go_num, by omega, HS9.out, by have h := HO9.out; obtain ⟨q1, q2⟩ := HST.out; rw [q1, q2]; exact h⟩
        case measure => simp [intOf]; omega
      · rw [if_neg hone] at hstep
        have HDO : HidC _ _ _ _ _ := ⟨rdv_arrive (s := (N : Int)) (u := 0) (n := (im : Int)) (g := (idv : Int)) (by omega) (by omega) (by omega) (by omega) (by omega) (by omega) ho⟩
        have HST : Hid _ := hstep
        clear hsv ho hmod hdiv hstep hone
        go_wp2_with fail
        refine HDO.out.mono ?_
        rintro e w9 ⟨rfl, ⟨v9, ho9, _⟩, t9⟩
        have hs9 := HS2.out.keep t9 (by have := HBG.out; simp; omega)
        have HS9 : Hid _ := hs9
        have HO9 : Hid _ := ho9
        clear hs9 ho9 t9 HDO y0 y1 y2
        go_wp2_with fail
        go_roundw
        case rel => exact ⟨i + 1, v9, by go_num, by omega, HS9.out, by have h := HO9.out; obtain ⟨q1, q2⟩ := HST.out; rw [q1, q2]; exact h⟩
        case measure => simp [intOf]; omega
    · have hge : decide ((i : Int) < a) = false := decide_eq_false (by omega)
      obtain rfl : i = a := by omega
      obtain ⟨im, him⟩ : ∃ q : Nat, q = i % N := ⟨_, rfl⟩
      obtain ⟨idv, hid⟩ : ∃ q : Nat, q = i / N := ⟨_, rfl⟩
      have hmod : im < N := by rw [him]; exact Nat.mod_lt _ (by omega)
      have hdiv : idv ≤ 8 := by rw [hid]; exact Nat.le_trans (Nat.div_le_self _ _) (by omega)
      have HFB : Hid (((List.replicate M (0 : Int)).set 0 (numV im)).set 1 (numV idv) = fmB N i) := by
        show _ = _
        have := fmB_fin ⟨N - 1, by omega⟩ ⟨i, by omega⟩
        simp only [show N - 1 + 1 = N by omega] at this
        rw [him, hid, HM2.out]
        exact this
      rw [← him, ← hid] at ho
      have HIM : Hid (im = i % N ∧ idv = i / N) := ⟨him, hid⟩
      have HS : Hid _ := hsv
      have HO : Hid _ := ho
      have hM3 := HM2.out
      have hg0 : (0 : Int) < M := by omega
      have hg1 : (1 : Int) < M := by omega
      clear hsv ho HSV4 HOB him hid hM3
      go_wp2_with fail
      refine (rshapev_any HO.out (by simp)).mono ?_
      rintro e w10 ⟨av, cv, rfl, _, _, t10⟩
      have hs10 := HS.out.keep t10 (by simp)
      have ho10 := HO.out.touch t10 (by simp) (by simp)
      have z0 := own_at hs10.h 0 (by omega)
      have zf := own_frV hs10.h 0
      have hsv := (hs10.set 0 (numV im)).1
      have ho := ho10.touch (hs10.set 0 (numV im)).2 (by have := HBG.out; simp; omega) (by simp)
      have HS11 : Hid _ := hsv
      have HO11 : Hid _ := ho
      clear hsv ho hs10 ho10 t10 HS HO y0 y1 y2
      have hsf1 := shape_f1
      have hsf2 := shape_f2
      go_wp2_with fail
      refine (HIN.out im (by omega) (by omega) _).out.mono ?_
      rintro e _ ⟨rfl, rfl⟩
      go_wp2_with fail
      generalize w10.setCell ⟨gh, 0, none⟩ (.int .u64 (numV im)) = w11 at *
      clear z0 zf
      refine (rshapev_any HO11.out (by simp)).mono ?_
      rintro e w12 ⟨av2, cv2, rfl, _, _, t12⟩
      have hs12 := HS11.out.keep t12 (by simp)
      have ho12 := HO11.out.touch t12 (by simp) (by simp)
      have z1 := own_at hs12.h 1 (by omega)
      have zg := own_frV hs12.h 1
      have hsv := (hs12.set 1 (numV idv)).1
      have ho := ho12.touch (hs12.set 1 (numV idv)).2 (by have := HBG.out; simp; omega) (by simp)
      rw [HFB.out] at hsv
      have HS13 : Hid _ := hsv
      have HO13 : Hid _ := ho
      clear hsv ho hs12 ho12 t12 HS11 HO11
      go_wp2_with fail
      refine (HIN.out idv (by omega) (by omega) _).out.mono ?_
      rintro e _ ⟨rfl, rfl⟩
      obtain ⟨b0', b1', b2'⟩ := HS13.out.a.box.cells
      obtain ⟨s0', s1', s2', s3', s4', s5', s6'⟩ := HS13.out.s.cells
      simp only at s0' s1' s2' s3' s4' s5' s6'
      have HWQ := fm_wfB N i N1 N4 (by omega)
      have hokk := fm_okL N V i N1 N4 V4 (by omega)
      have hMi : (fmB N i).length = M := by rw [fmB_len, HM2.out]
      have hHR : VRow (w12.setCell ⟨gh, 1, none⟩ (.int .u64 (numV idv))) (.slice (some ⟨gh, 0, none⟩) M M) (fmB N i) := by
        have := vrow_of HS13.out.h
        exact this
      unfold fmOkL at hokk
      obtain ⟨hm1, hm2⟩ := HIM.out
      rw [← hm1, ← hm2] at hokk
      clear hm1 hm2
      by_cases hful : lessB (ofB (numV V).toNat) (ofB (numV idv).toNat) = true
      · -- it goes on
        rw [if_pos hful] at hokk
        have HFU : Hid _ := hful
        clear hful
        unfold fmEnd at hokk
        simp only [Bool.and_eq_true, beq_iff_eq] at hokk
        obtain ⟨⟨⟨hR1, hR2⟩, hR3⟩, hHQ⟩ := hokk
        have HC := fm_blk 3 N V M (by omega) (by omega) N1 N4 V4 (fmB N i) hMi M6 HWQ (.inl hR1) (w12.setCell ⟨gh, 1, none⟩ (.int .u64 (numV idv))) ao cap (some ⟨gh, 0, none⟩) M HS13.out.a.ins hHR
        generalize fmR 3 N (numV V) (fmB N i) = R at *
        obtain ⟨r1, ⟨pc, st, l0, l1, l2, l3, ou, fu⟩, h⟩ := R
        simp only at hR1 hR2 hR3 hHQ
        subst hR1 hR2 hR3
        have HHQ : Hid _ := hHQ
        clear HFB HWQ hMi hHR hHQ
        go_wp2_with fail
        refine HC.out.mono ?_
        rintro e w10 (⟨_, sa, sc, oa, oc, ha, hc10, rfl, v1, v2, v3, t10, f1, f2, f3⟩ | ⟨h0, _⟩)
        rotate_left
        · simp at h0
        simp only [List.length_cons, List.length_nil, Nat.zero_add] at v1 f1
        have tO : Touch w10 (w10.alloc (.cells (outA 1 ⟨((foneL 3 N (numV V)).length : Int), [], l0, l1, l2, l3, ou, fu⟩ (.slice sa 0 sc) (.slice oa ou.length oc) (.slice ha h.length hc10) (.slice none 0 0) 0) 51)) [] := (Touch.refl w10 []).alloc _
        have hq : OutB (w10.alloc (.cells (outA 1 ⟨((foneL 3 N (numV V)).length : Int), [], l0, l1, l2, l3, ou, fu⟩ (.slice sa 0 sc) (.slice oa ou.length oc) (.slice ha h.length hc10) (.slice none 0 0) 0) 51)) w10.heap.size (outA 1 ⟨((foneL 3 N (numV V)).length : Int), [], l0, l1, l2, l3, ou, fu⟩ (.slice sa 0 sc) (.slice oa ou.length oc) (.slice ha h.length hc10) (.slice none 0 0) 0) := ⟨heap_alloc_new w10 _⟩
        have hs11 := HS13.out.keep (t10.trans tO (by simp)) (by simp)
        have ho11 := HO13.out.touch (t10.trans tO (by simp)) (by simp) (by simp)
        obtain ⟨b0', b1', b2'⟩ := hs11.a.box.cells
        simp only [outA] at b0' b1' b2'
        have hbW := lt_of_heap HO13.out.st
        have hqb : w10.heap.size ∉ [b] := by have := t10.size; simp; omega
        have HDO : HidC _ _ _ _ _ := ⟨rdv_leave (s := (N : Int)) (u := 0) (numV_wf' V (by omega) (by omega)) (fm_right V V4) (by omega) (by omega) HFU.out (by omega) ho11⟩
        have HQ11 : Hid _ := hq
        have HQB : Hid _ := hqb
        have HS11 : Hid _ := hs11
        have HV3 : Hid _ := SRow.keep v3 tO (by simp)
        have HV1 : Hid _ := SRow.keep v1 tO (by simp)
        have HF3 : Hid (∀ g, (Value.slice ha h.length hc10).ownBlock = some g → g ∉ [b]) := fun g hg hs => by have := f3 g hg; simp at hs; omega
        have HF1 : Hid (∀ g, (Value.slice sa 0 sc).ownBlock = some g → g ∉ [b]) := fun g hg hs => by have := f1 g hg; simp at hs; omega
        clear hs11 ho11 hq hqb tO t10 v1 v2 v3 f1 f2 f3 HC hbW
        go_wp2_with fail
        refine HDO.out.mono ?_
        rintro e w12 ⟨rfl, ⟨v12, ho12, _⟩, t12⟩
        obtain ⟨Y, hY⟩ : ∃ Y, Y = w12.alloc (.cells #[.int .u64 (4607182418800017408), .bool false, .int .i64 0] 43) := ⟨_, rfl⟩
        have tA : Touch w12 Y [] := by rw [hY]; exact (Touch.refl w12 []).alloc _
        have han : Y.heap[w12.heap.size]? = some (.cells #[.int .u64 (4607182418800017408), .bool false, .int .i64 0] 43 (0, 0)) := by rw [hY]; exact heap_alloc_new w12 _
        have tY := t12.trans tA (by simp)
        have hq12 := HQ11.out.touch tY HQB.out
        have q0 := hq12.cell 0
        have q1 := hq12.cell 1
        have q2 := hq12.cell 2
        have q8 := hq12.cell 8
        simp only [outA, List.getElem?_toArray, List.getElem?_cons_zero, List.getElem?_cons_succ] at q0 q1 q2 q8
        have hs12 := HS11.out.keep tY (by have := HBG.out; simp; omega)
        obtain ⟨b0', b1', b2'⟩ := hs12.a.box.cells
        have HT : Hid _ := hs12.a.t
        have hv3 := SRow.keepB HV3.out tY (fun _ g hg => HF3.out g hg)
        have hv1 := SRow.keepB HV1.out tY (fun _ g hg => HF1.out g hg)
        have ho13 := ho12.touch tA (by simp) (by simp)
        have HH : Hid (∀ Z, Touch Y Z [] → HidC Tryd.prog 11 #[.pointer (some ⟨b, 0, none⟩), .slice ha h.length hc10, .int .i64 N] Z fun e w' => e = .returned (.bool true) ∧ Touch Z w' []) := fun Z tz => ⟨rheld_bar (ho13.touch tz (by simp) (by simp)) (by simp) (SRow.keep hv3 tz (by simp)) HHQ.out (by omega) (by omega) N⟩
        obtain ⟨a0', a1', a2'⟩ := ans_cells han
        clear hq12 t12 tA hs12 HDO tY han hv3 ho13 ho12 hv1
        subst hY
        go_wp2_with fail
        refine (HH.out _ (Touch.refl _ [])).out.mono ?_
        rintro e w14 ⟨rfl, t14⟩
        go_wp2
        go_ret
        exact ⟨rfl, HT.out.trans t14 (by simp)⟩

      · -- it blocks
        rw [if_neg hful] at hokk
        simp only [beq_iff_eq] at hokk
        have HC := fm_blk 3 N V M (by omega) (by omega) N1 N4 V4 (fmB N i) hMi M6 HWQ (.inr hokk) (w12.setCell ⟨gh, 1, none⟩ (.int .u64 (numV idv))) ao cap (some ⟨gh, 0, none⟩) M HS13.out.a.ins hHR
        generalize fmR 3 N (numV V) (fmB N i) = R at *
        obtain ⟨r1, ⟨pc, st, l0, l1, l2, l3, ou, fu⟩, h⟩ := R
        simp only at hokk
        subst hokk
        have HFU : Hid (lessB (ofB (numV V).toNat) (ofB (numV idv).toNat) = false) := by show _ = _; simpa using hful
        clear HFB HWQ hMi hHR hful
        go_wp2_with fail
        refine HC.out.mono ?_
        rintro e w10 (⟨h0, _⟩ | ⟨_, sa, sc, oa, oc, ha, hc10, rfl, v1, v2, v3, t10, f1, f2, f3⟩)
        · simp at h0
        have tO : Touch w10 (w10.alloc (.cells (outA 2 ⟨0, [], 0, 0, numV V, 0, [], 0⟩ (.slice sa 0 sc) (.slice oa 0 oc) (.slice ha (fmB N i).length hc10) (.slice none 0 0) 0) 51)) [] := (Touch.refl w10 []).alloc _
        have hq : OutB (w10.alloc (.cells (outA 2 ⟨0, [], 0, 0, numV V, 0, [], 0⟩ (.slice sa 0 sc) (.slice oa 0 oc) (.slice ha (fmB N i).length hc10) (.slice none 0 0) 0) 51)) w10.heap.size (outA 2 ⟨0, [], 0, 0, numV V, 0, [], 0⟩ (.slice sa 0 sc) (.slice oa 0 oc) (.slice ha (fmB N i).length hc10) (.slice none 0 0) 0) := ⟨heap_alloc_new w10 _⟩
        have hs11 := HS13.out.keep (t10.trans tO (by simp)) (by simp)
        have ho11 := HO13.out.touch (t10.trans tO (by simp)) (by simp) (by simp)
        obtain ⟨b0', b1', b2'⟩ := hs11.a.box.cells
        simp only [outA] at b0' b1' b2'
        have hbW := lt_of_heap HO13.out.st
        have hqb : w10.heap.size ∉ [b] := by have := t10.size; simp; omega
        have hfu := HFU.out
        have HDO : HidC _ _ _ _ _ := ⟨rdv_early (s := (N : Int)) (u := 0) (numV_wf' V (by omega) (by omega)) (fm_right V V4) (by omega) (by omega) hfu (by omega) ho11⟩
        have HQ11 : Hid _ := hq
        have HQB : Hid _ := hqb
        have HS11 : Hid _ := hs11
        clear hs11 ho11 hq hqb tO t10 v1 v2 v3 f1 f2 f3 HC hbW hfu
        go_wp2_with fail
        refine HDO.out.mono ?_
        rintro e w12 ⟨rfl, _, t12⟩
        have tA : Touch w12 (w12.alloc (.cells #[.int .u64 0, .bool true, .int .i64 0] 43)) [] := (Touch.refl w12 []).alloc _
        obtain ⟨a0', a1', a2'⟩ := ans_cells (heap_alloc_new w12 (.cells #[.int .u64 0, .bool true, .int .i64 0] 43))
        have hq12 := HQ11.out.touch (t12.trans tA (by simp)) HQB.out
        have q0 := hq12.cell 0
        simp only [outA, List.getElem?_toArray, List.getElem?_cons_zero, List.getElem?_cons_succ] at q0
        have hs12 := HS11.out.keep (t12.trans tA (by simp)) (by have := HBG.out; simp; omega)
        have HT : Hid _ := hs12.a.t
        clear hq12 t12 tA hs12 HDO b0' b1' b2'
        go_wp2
        go_ret
        exact ⟨rfl, HT.out⟩

theorem flowsmean_any {w : World} (hw : Wds w) (k s x0 x1 x2 x3 x4 x5 : Int) (k0 : 0 ≤ k) (k1 : k ≤ 255) (s0 : 0 ≤ s) (s1 : s ≤ 255) (a0 : 0 ≤ x0) (a1 : x0 ≤ 255) (b0 : 0 ≤ x1) (b1 : x1 ≤ 255) (c0 : 0 ≤ x2) (c1 : x2 ≤ 255) :
    Calls Tryd.prog 3 #[.int .u8 k, .int .u8 s, .agg #[.int .u8 x0, .int .u8 x1, .int .u8 x2, .int .u8 x3, .int .u8 x4, .int .u8 x5]] w fun e w' => e = .returned (.bool true) ∧ Touch w w' [] := by
  rcases (show k % 4 = 0 ∨ k % 4 = 1 ∨ k % 4 = 2 ∨ k % 4 = 3 by omega) with h | h | h | h
  · exact fm_0 hw k s x0 x1 x2 x3 x4 x5 k0 k1 s0 s1 a0 a1 b0 b1 c0 c1 h
  · exact fm_1 hw k s x0 x1 x2 x3 x4 x5 k0 k1 s0 s1 a0 a1 b0 b1 c0 c1 h
  · exact fm_2 hw k s x0 x1 x2 x3 x4 x5 k0 k1 s0 s1 a0 a1 b0 b1 c0 c1 h
  · exact fm_3 hw k s x0 x1 x2 x3 x4 x5 k0 k1 s0 s1 a0 a1 b0 b1 c0 c1 h

end Go.Proofs.YtkpgfchglaemgaaDoor
