/-
  Both lists, apart; do, same, play BY THEIR CONTRACTS.
-/
import Derived.Test.YteffdibdnoppjaaWtLive
import Derived.Test.YteffdibdnoppjaaWtRefC
import Derived.Test.YteffdibdnoppjaaWtRefG
import Derived.Test.YteffdibdnoppjaaWtOpen
import Derived.Test.YteffdibdnoppjaaSameInts
namespace Go.Proofs.Yteffdibdnoppjaa
set_option linter.unusedVariables false
set_option linter.unusedSimpArgs false
open Go.RowKit Go.Maps
attribute [local go_sem] Oper.semAt_some

structure PM (W0 w : World) (b : Nat) (F : List Nat) (k : Nat) (L1 : List WD) (r : Nat) (G : List Nat) (L2 : List WD) : Prop where
  l : WAt w b F k L1
  r : RAt w r G L2
  ap : ∀ x ∈ F, x ∉ G
  fl : ∀ x ∈ F, W0.heap.size ≤ x
  gl : ∀ x ∈ G, W0.heap.size ≤ x
  t : Touch W0 w []
theorem PM.keep {W0 w w' : World} {b r k : Nat} {F G : List Nat} {L1 L2 : List WD} (h : PM W0 w b F k L1 r G L2) (t : Touch w w' []) : PM W0 w' b F k L1 r G L2 :=
  ⟨h.l.touch t (by simp), h.r.touch t (by simp), h.ap, h.fl, h.gl, h.t.trans t (by simp)⟩
theorem PM.left {W0 w w' : World} {b r k : Nat} {F G : List Nat} {L1 L2 L' : List WD} (h : PM W0 w b F k L1 r G L2) (p : WPost w b k F L' w') : ∃ F', PM W0 w' b F' (k + 1) L' r G L2 := by
  obtain ⟨F', h1, t, hF⟩ := p
  have hs := h.t.size
  refine ⟨F', h1, h.r.touch t (fun x hx hf => h.ap x hf hx), fun x hx hg => ?_, fun x hx => ?_, h.gl, h.t.trans t (fun x hx => .inr (h.fl x hx))⟩
  · rcases hF x hx with h2 | h2
    · exact h.ap x h2 hg
    · have := h.r.lt x hg; omega
  · rcases hF x hx with h2 | h2
    · exact h.fl x h2
    · omega
theorem PM.right {W0 w w' : World} {b r k : Nat} {F G : List Nat} {L1 L2 L' : List WD} (h : PM W0 w b F k L1 r G L2) (p : RPost w r G L' w') : ∃ G', PM W0 w' b F k L1 r G' L' := by
  obtain ⟨G', h1, t, hG⟩ := p
  have hs := h.t.size
  refine ⟨G', h.l.touch t (fun x hx => h.ap x hx), h1, fun x hx hg => ?_, h.fl, fun x hx => ?_, h.t.trans t (fun x hx => .inr (h.gl x hx))⟩
  · rcases hG x hg with h2 | h2
    · exact h.ap x hx h2
    · have := h.l.lt x hx; omega
  · rcases hG x hx with h2 | h2
    · exact h.gl x h2
    · omega

/-- What a deed does. -/
def stepW (L : List WD) (d : DeedW) : List WD :=
  if d.k = 0 then (regE L d.th (d.t.take 20)).2 else if d.k = 1 then (sleepE L d.th).2 else if d.k = 2 then (cancelE L d.th).2 else if d.k = 3 then wakeL L (setP (d.t.take 20)) else L
abbrev DeedW.val (d : DeedW) : Value := .agg #[.int .i64 d.k, .int .i64 d.th, .slice d.ao d.t.length d.cap]

def DoPost (W0 : World) (b k r : Nat) (L : List WD) (e : Ending) (w' : World) : Prop := e = .returned (.bool true) ∧ ∃ F G, PM W0 w' b F (k + 1) L r G L

set_option maxRecDepth 100000 in
set_option maxHeartbeats 4000000 in
theorem do_any {W0 w : World} {b r k : Nat} {F G : List Nat} {L : List WD} (h : PM W0 w b F k L r G L) (hk : k ≤ 1000) (d : DeedW) (hd : d.Wf W0) :
    Calls Try.prog 25 #[ptr b, ptr r, d.val] w (DoPost W0 b k r (stepW L d)) := by
  have h64 := hd.th
  have hfew : Hid (∀ W, Touch W0 W [] → HidC Try.prog 11 #[.slice d.ao d.t.length d.cap] W fun e w' => ∃ a c, e = .returned (.slice a (d.t.take 20).length c) ∧ IRow W (.slice a (d.t.take 20).length c) (d.t.take 20) ∧ W = w') := fun W T => ⟨by
    refine (few_any (SRow.keep hd.row T (by simp)) hd.cap hd.len).mono ?_
    rintro e w2 ⟨v, rfl, hv, rfl⟩
    obtain ⟨a, c, rfl⟩ := hv.shape
    exact ⟨a, c, rfl, hv, rfl⟩⟩
  have hl20 : (d.t.take 20).length ≤ 1000 := by rw [List.length_take]; omega
  obtain ⟨dk, th, ao, cap, tv⟩ := d
  simp only [DeedW.val, stepW] at hfew ⊢
  simp only at h64 hl20
  clear hd
  generalize tv.length = N at *
  generalize tv.take 20 = l2 at *
  obtain ⟨X, hX⟩ : ∃ X, X = Obj.cells #[.int .i64 dk, .int .i64 th, .slice ao N cap] 24 (0, 0) := ⟨_, rfl⟩
  have hb0 : (w.alloc X).heap[w.heap.size]? = some X := heap_alloc_new w _
  have TD : Touch w (w.alloc X) [] := (Touch.refl w []).alloc _
  have HC : Hid (∀ W S, Touch (w.alloc X) W S → (w.heap.size ∉ S) → W.cell? ⟨w.heap.size, 1, none⟩ = some (.int .i64 th) ∧ W.cell? ⟨w.heap.size, 2, none⟩ = some (.slice ao N cap)) := fun W S T hS => by
    have hb := (T.block w.heap.size (by simp) hS).trans hb0
    subst hX
    exact ⟨by unfold World.cell?; rw [hb]; rfl, by unfold World.cell?; rw [hb]; rfl⟩
  have q0 : (w.alloc X).cell? ⟨w.heap.size, 0, none⟩ = some (.int .i64 dk) := by subst hX; unfold World.cell?; rw [hb0]; rfl
  have HP : Hid _ := h.keep TD
  have HPD : Hid _ := h.keep TD.drew
  have hqF : w.heap.size ∉ F := fun hs => by have := h.l.lt _ hs; omega
  have hqG : w.heap.size ∉ G := fun hs => by have := h.r.lt _ hs; omega
  have TR : Touch (w.alloc X) (w.alloc X).drew [] := (Touch.refl _ []).drew
  have D0 := HC.out _ _ TR (by simp)
  have T0 : Touch W0 (w.alloc X).drew [] := HPD.out.t
  have HTR : Hid _ := TR
  have hGl : ∀ x ∈ G, x < w.heap.size := h.r.lt
  have HGL : Hid _ := hGl
  clear hb0 TD h TR hGl
  by_cases k0 : dk = 0
  · subst k0
    simp only [if_true]
    have hreg : ∀ a c, IRow (w.alloc X).drew (.slice a l2.length c) l2 → HidC _ _ _ _ _ := fun a c hr => ⟨register_any HPD.out.l (by omega) th h64 hr hl20⟩
    have hrreg : ∀ W, RAt W r G L → ∀ a c, IRow W (.slice a l2.length c) l2 → HidC _ _ _ W _ := fun W hW a c hr => ⟨rregister_any hW th hr hl20⟩
    generalize regE L th l2 = R at *
    obtain ⟨re, L'⟩ := R
    have HREG : Hid _ := hreg
    have HRREG : Hid _ := hrreg
    clear hreg hrreg
    subst hX
    go_enter Try.func25, Try.ntmps25
    go_wp2_with fail
    go_region_held3 (fun w' => w'.cell? ⟨w.heap.size, 1, none⟩ = some (.int .i64 th) ∧ w'.cell? ⟨w.heap.size, 2, none⟩ = some (.slice ao N cap)) (first | exact D0 | exact D1 | exact D2) (first
      | (go_at_call 10; refine (HREG.out _ _ hv2).out.mono ?_; rintro e w1 ⟨rfl, p1⟩; obtain ⟨F1, PM1⟩ := HPD.out.left p1; have T1 : Touch (w.alloc _).drew w1 F := p1.choose_spec.2.1; have D1 := HC.out w1 F ((HTR.out.mono (by simp)).trans T1 (fun x hx => .inl hx)) hqF; have T0 : Touch W0 w1 [] := PM1.t)
      | (go_at_call 41; refine (HRREG.out _ PM1.r _ _ hv2).out.mono ?_; rintro e w2 ⟨rfl, p2⟩; obtain ⟨G2, PM2⟩ := PM1.right p2; have T2 : Touch w1 w2 G := p2.choose_spec.2.1; have D2 := HC.out w2 (F ++ G) (((HTR.out.mono (by simp)).trans T1 (fun x hx => .inl (by simp [hx]))).trans T2 (fun x hx => .inl (by simp [hx]))) (by simp [hqF, hqG]))
      | (go_at_call 11; refine (hfew.out _ T0).out.mono ?_; rintro e wf ⟨a2, c2, rfl, hv2, rfl⟩))
    have HPM2 : Hid _ := PM2
    clear PM1 PM2 p1 p2 D0 D1 D2 T0 T1 T2
    go_wp2
    go_ret
    exact ⟨by simp, _, _, HPM2.out⟩
  by_cases k1 : dk = 1
  · subst k1
    simp only [show ¬ ((1 : Int) = 0) by decide, if_true, if_false]
    have HREG : Hid (HidC _ _ _ _ _) := ⟨sleep_any HPD.out.l (by omega) th h64⟩
    have HRREG : Hid (∀ W, RAt W r G L → HidC _ _ _ W _) := fun W hW => ⟨rsleep_any hW th⟩
    generalize sleepE L th = R at *
    obtain ⟨re, L'⟩ := R
    subst hX
    go_enter Try.func25, Try.ntmps25
    go_wp2_with fail
    go_region_held3 (fun w' => w'.cell? ⟨w.heap.size, 1, none⟩ = some (.int .i64 th) ∧ w'.cell? ⟨w.heap.size, 2, none⟩ = some (.slice ao N cap)) (first | exact D0 | exact D1 | exact D2) (first
      | (go_at_call 12; refine HREG.out.out.mono ?_; rintro e w1 ⟨rfl, p1⟩; obtain ⟨F1, PM1⟩ := HPD.out.left p1; have T1 : Touch (w.alloc _).drew w1 F := p1.choose_spec.2.1; have D1 := HC.out w1 F ((HTR.out.mono (by simp)).trans T1 (fun x hx => .inl hx)) hqF; have T0 : Touch W0 w1 [] := PM1.t)
      | (go_at_call 42; refine (HRREG.out _ PM1.r).out.mono ?_; rintro e w2 ⟨rfl, p2⟩; obtain ⟨G2, PM2⟩ := PM1.right p2; have T2 : Touch w1 w2 G := p2.choose_spec.2.1; have D2 := HC.out w2 (F ++ G) (((HTR.out.mono (by simp)).trans T1 (fun x hx => .inl (by simp [hx]))).trans T2 (fun x hx => .inl (by simp [hx]))) (by simp [hqF, hqG])))
    have HPM2 : Hid _ := PM2
    clear PM1 PM2 p1 p2 D0 D1 D2 T0 T1 T2
    go_wp2
    go_ret
    exact ⟨by simp, _, _, HPM2.out⟩
  by_cases k2 : dk = 2
  · subst k2
    simp only [show ¬ ((2 : Int) = 0) by decide, show ¬ ((2 : Int) = 1) by decide, if_true, if_false]
    have HREG : Hid (HidC _ _ _ _ _) := ⟨cancel_any HPD.out.l th h64⟩
    have HRREG : Hid (∀ W, RAt W r G L → HidC _ _ _ W _) := fun W hW => ⟨rcancel_any hW th⟩
    generalize cancelE L th = R at *
    obtain ⟨re, L'⟩ := R
    subst hX
    go_enter Try.func25, Try.ntmps25
    go_wp2_with fail
    go_region_held3 (fun w' => w'.cell? ⟨w.heap.size, 1, none⟩ = some (.int .i64 th) ∧ w'.cell? ⟨w.heap.size, 2, none⟩ = some (.slice ao N cap)) (first | exact D0 | exact D1 | exact D2) (first
      | (go_at_call 13; refine HREG.out.out.mono ?_; rintro e w1 ⟨rfl, p1⟩; obtain ⟨F1, PM1⟩ := HPD.out.left p1; have T1 : Touch (w.alloc _).drew w1 F := p1.choose_spec.2.1; have D1 := HC.out w1 F ((HTR.out.mono (by simp)).trans T1 (fun x hx => .inl hx)) hqF; have T0 : Touch W0 w1 [] := PM1.t)
      | (go_at_call 43; refine (HRREG.out _ PM1.r).out.mono ?_; rintro e w2 ⟨rfl, p2⟩; obtain ⟨G2, PM2⟩ := PM1.right p2; have T2 : Touch w1 w2 G := p2.choose_spec.2.1; have D2 := HC.out w2 (F ++ G) (((HTR.out.mono (by simp)).trans T1 (fun x hx => .inl (by simp [hx]))).trans T2 (fun x hx => .inl (by simp [hx]))) (by simp [hqF, hqG])))
    have HPM2 : Hid _ := PM2
    clear PM1 PM2 p1 p2 D0 D1 D2 T0 T1 T2
    go_wp2
    go_ret
    exact ⟨by simp, _, _, HPM2.out⟩
  by_cases k3 : dk = 3
  · subst k3
    simp only [show ¬ ((3 : Int) = 0) by decide, show ¬ ((3 : Int) = 1) by decide, show ¬ ((3 : Int) = 2) by decide, if_true, if_false]
    have HREG : Hid (∀ a c, IRow (w.alloc X).drew (.slice a l2.length c) l2 → HidC _ _ _ _ _) := fun a c hr => ⟨wake_any HPD.out.l hr hl20⟩
    have HRREG : Hid (∀ W, RAt W r G L → ∀ a c, IRow W (.slice a l2.length c) l2 → HidC _ _ _ W _) := fun W hW a c hr => ⟨rwake_any hW hr hl20⟩
    have hln := HPD.out.l.wf.len
    have hfl := forP_len L (setP l2)
    have HSM : Hid (∀ (W : World) (B1 B2 : Nat) (va vb : Value), intOwn W B1 va (forP L (setP l2)) → intOwn W B2 vb (forP L (setP l2)) → HidC _ _ _ W _) := fun W B1 B2 va vb h1 h2 => ⟨sameInts_eq B1 B2 _ va vb _ W (by omega) h1 h2⟩
    generalize forP L (setP l2) = fl at *
    generalize wakeL L (setP l2) = L' at *
    clear hln hfl
    have HNG : Hid (∀ g, (w.alloc X).drew.heap.size ≤ g → g ∉ G) := fun g hg hs => by
      have h6 := HGL.out g hs
      have h7 : (w.alloc X).drew.heap.size = w.heap.size + 1 := by simp [World.drew]
      omega
    subst hX
    go_enter Try.func25, Try.ntmps25
    go_wp2_with fail
    go_region_held3 (fun w' => w'.cell? ⟨w.heap.size, 1, none⟩ = some (.int .i64 th) ∧ w'.cell? ⟨w.heap.size, 2, none⟩ = some (.slice ao N cap)) (first | exact D0 | exact D1 | exact D2 | exact D3) (first
      | (go_at_call 14; refine (HREG.out _ _ hv2).out.mono ?_; rintro e w1 ⟨u1, rfl, hu1, p0, T1⟩; obtain ⟨F1, PM1⟩ := HPD.out.left (L' := L') ⟨F, WAt.mono p0 (Nat.le_succ _), T1, fun x hx => .inl hx⟩; have D1 := HC.out w1 F ((HTR.out.mono (by simp)).trans T1 (fun x hx => .inl hx)) hqF; have T0 : Touch W0 w1 [] := PM1.t)
      | (go_at_call 44; refine (HRREG.out _ PM1.r _ _ hv2).out.mono ?_; rintro e w2 ⟨u2, rfl, hu2, p2⟩; obtain ⟨G2, PM2⟩ := PM1.right p2; have T2 : Touch w1 w2 G := p2.choose_spec.2.1; have D2 := HC.out w2 (F ++ G) (((HTR.out.mono (by simp)).trans T1 (fun x hx => .inl (by simp [hx]))).trans T2 (fun x hx => .inl (by simp [hx]))) (by simp [hqF, hqG]); have hu3 := ownsRow_touch hu1 T2 (fun g hg => HNG.out g (int_lt hu1 g hg).1))
      | (go_at_call 22; refine (HSM.out _ _ _ _ _ hu3 hu2).out.mono ?_; rintro e w3 ⟨rfl, T3⟩; have PM3 := PM2.keep T3; have D3 := HC.out w3 (F ++ G) ((((HTR.out.mono (by simp)).trans T1 (fun x hx => .inl (by simp [hx]))).trans T2 (fun x hx => .inl (by simp [hx]))).trans T3 (by simp)) (by simp [hqF, hqG]))
      | (go_at_call 11; refine (hfew.out _ T0).out.mono ?_; rintro e wf ⟨a2, c2, rfl, hv2, rfl⟩))
    have HPM3 : Hid _ := PM3
    clear PM1 PM2 PM3 p2 D0 D1 D2 D3 T0 T1 T2 T3 hu1 hu2 hu3
    go_wp2
    go_ret
    exact ⟨by simp, _, _, HPM3.out⟩
  rw [if_neg k0, if_neg k1, if_neg k2, if_neg k3]
  have k0' : (dk == 0) = false := by simpa using k0
  have k1' : (dk == 1) = false := by simpa using k1
  have k2' : (dk == 2) = false := by simpa using k2
  have k3' : (dk == 3) = false := by simpa using k3
  have HF : Hid (DoPost W0 b k r L (.returned (.bool true)) (w.alloc X)) := ⟨rfl, F, G, ⟨HP.out.l.mono (Nat.le_succ _), HP.out.r, HP.out.ap, HP.out.fl, HP.out.gl, HP.out.t⟩⟩
  clear k0 k1 k2 k3 D0 T0
  subst hX
  go_enter Try.func25, Try.ntmps25
  go_wp2
  go_ret
  exact HF.out

set_option maxRecDepth 100000 in
set_option maxHeartbeats 2000000 in
theorem same_any {W0 w : World} {b r k : Nat} {F G : List Nat} {L : List WD} (h : PM W0 w b F k L r G L) :
    Calls Try.prog 23 #[ptr b, ptr r] w fun e w' => e = .returned (.bool true) ∧ Touch w w' [] := by
  have hln := h.l.wf.len
  have HP : Hid _ := h
  clear h
  go_enter Try.func23, Try.ntmps23
  go_wp2_with fail
  go_loopw [5] (fun i wr => ∃ j : Nat, i = .int .i64 ((j : Int) - 1) ∧ j ≤ 14 ∧ Touch w wr []) (fun i _ => 14 - (intOf i + 1).toNat)
  case atStart => exact ⟨0, rfl, by omega, Touch.refl _ _⟩
  case round =>
    obtain ⟨j, rfl, hj, hT⟩ := hrel
    have HT : Hid _ := hT
    by_cases hlt : j < 14
    · have h1 : (j : Int) - 1 ≤ 12 := by omega
      have hA : HidC _ _ _ _ _ := ⟨at_any (HP.out.keep hT).l ((j : Int) - 1)⟩
      have HR : Hid (∀ W, Touch wr W [] → HidC _ _ _ W _) := fun W T => ⟨rAt_any ((HP.out.keep hT).keep T).r ((j : Int) - 1)⟩
      have hfl := forP_len L (setP [(j : Int) - 1])
      have HSM : Hid (∀ (W : World) (B1 B2 : Nat) (va vb : Value), intOwn W B1 va (forP L (setP [(j : Int) - 1])) → intOwn W B2 vb (forP L (setP [(j : Int) - 1])) → HidC _ _ _ W _) := fun W B1 B2 va vb h1 h2 => ⟨sameInts_eq B1 B2 _ va vb _ W (by omega) h1 h2⟩
      clear hT hfl
      generalize forP L (setP [(j : Int) - 1]) = fl at *
      go_wp2_with fail
      refine hA.out.mono ?_
      rintro e w1 ⟨u1, rfl, hu1, t1⟩
      clear hA
      go_wp2_with fail
      refine (HR.out _ t1).out.mono ?_
      rintro e w2 ⟨u2, rfl, hu2, t2⟩
      have hu3 := ownsRow_touch hu1 t2 (by simp)
      go_wp2_with fail
      refine (HSM.out _ _ _ _ _ hu3 hu2).out.mono ?_
      rintro e w3 ⟨rfl, t3⟩
      have HT3 : Hid _ := ((HT.out.trans t1 (by simp)).trans t2 (by simp)).trans t3 (by simp)
      clear hu1 hu2 hu3 t1 t2 t3
      go_wp2
      go_roundw
      case rel => exact ⟨j + 1, by go_num, by omega, HT3.out⟩
      case measure => simp [intOf]; omega
    · obtain rfl : j = 14 := by omega
      clear hT
      go_wp2_with fail
      go_loopw [6] (fun i wr => ∃ j : Nat, i = .int .i64 ((j : Int) - 1) ∧ j ≤ 6 ∧ Touch w wr []) (fun i _ => 6 - (intOf i + 1).toNat)
      case atStart => exact ⟨0, rfl, by omega, HT.out⟩
      case round =>
        obtain ⟨j, rfl, hj, hT⟩ := hrel
        have HT : Hid _ := hT
        by_cases hlt : j < 6
        · have h1 : (j : Int) - 1 ≤ 4 := by omega
          have h64 : W64 ((j : Int) - 1) := ⟨by omega, by omega⟩
          have hA : HidC _ _ _ _ _ := ⟨of_any (HP.out.keep hT).l ((j : Int) - 1) h64⟩
          have HR : Hid (∀ W, Touch w W [] → HidC _ _ _ W _) := fun W T => ⟨rof_any (HP.out.keep T).r ((j : Int) - 1)⟩
          have HS : Hid (∀ W, Touch w W [] → HidC _ _ _ W _) := fun W T => ⟨asleep_any (HP.out.keep T).l ((j : Int) - 1) h64⟩
          have HS2 : Hid (∀ W, Touch w W [] → HidC _ _ _ W _) := fun W T => ⟨rasleep_any (HP.out.keep T).r ((j : Int) - 1)⟩
          have hfl : (listP (ofP L ((j : Int) - 1))).length ≤ 12 := bitsP_len (ofP L ((j : Int) - 1)) 12
          have HSM : Hid (∀ (W : World) (B1 B2 : Nat) (va vb : Value), intOwn W B1 va (listP (ofP L ((j : Int) - 1))) → intOwn W B2 vb (listP (ofP L ((j : Int) - 1))) → HidC _ _ _ W _) := fun W B1 B2 va vb h1 h2 => ⟨sameInts_eq B1 B2 _ va vb _ W (by omega) h1 h2⟩
          clear hT hfl
          generalize listP (ofP L ((j : Int) - 1)) = fl at *
          generalize slP L ((j : Int) - 1) = sl at *
          go_wp2_with fail
          refine hA.out.mono ?_
          rintro e w1 ⟨u1, rfl, hu1, t1⟩
          clear hA
          have T1 : Touch w w1 [] := HT.out.trans t1 (by simp)
          go_wp2_with fail
          refine (HR.out _ T1).out.mono ?_
          rintro e w2 ⟨u2, rfl, hu2, t2⟩
          have hu3 := ownsRow_touch hu1 t2 (by simp)
          have T2 : Touch w w2 [] := T1.trans t2 (by simp)
          go_wp2_with fail
          refine (HSM.out _ _ _ _ _ hu3 hu2).out.mono ?_
          rintro e w3 ⟨rfl, t3⟩
          have T3 : Touch w w3 [] := T2.trans t3 (by simp)
          have HT3 : Hid _ := T3
          clear hu1 hu2 hu3 t1 t2 t3 T1 T2 T3
          go_wp2_with fail
          refine (HS.out _ HT3.out).out.mono ?_
          rintro e w4 ⟨rfl, rfl⟩
          go_wp2_with fail
          refine (HS2.out _ HT3.out).out.mono ?_
          rintro e w4 ⟨rfl, rfl⟩
          cases sl with
          | true =>
            go_wp2
            go_roundw
            case rel => (repeat apply Exists.intro); exact ⟨⟨j + 1, by go_num, by omega, HT3.out⟩, rfl⟩
            case measure => simp [intOf]; omega
          | false =>
            go_wp2
            go_roundw
            case rel => (repeat apply Exists.intro); exact ⟨⟨j + 1, by go_num, by omega, HT3.out⟩, rfl⟩
            case measure => simp [intOf]; omega
        · obtain rfl : j = 6 := by omega
          have hA : HidC _ _ _ _ _ := ⟨waiting_any (HP.out.keep hT).l⟩
          have HR : Hid (∀ W, Touch wr W [] → HidC _ _ _ W _) := fun W T => ⟨rwaiting_any ((HP.out.keep hT).keep T).r⟩
          have HSM : Hid (∀ (W : World) (B1 B2 : Nat) (va vb : Value), intOwn W B1 va (L.map WD.th) → intOwn W B2 vb (L.map WD.th) → HidC _ _ _ W _) := fun W B1 B2 va vb h1 h2 => ⟨sameInts_eq B1 B2 _ va vb _ W (by rw [List.length_map]; omega) h1 h2⟩
          clear hT
          generalize L.map WD.th = fl at *
          go_wp2_with fail
          refine hA.out.mono ?_
          rintro e w1 ⟨u1, rfl, hu1, t1⟩
          clear hA
          go_wp2_with fail
          refine (HR.out _ t1).out.mono ?_
          rintro e w2 ⟨u2, rfl, hu2, t2⟩
          have hu3 := ownsRow_touch hu1 t2 (by simp)
          go_wp2_with fail
          refine (HSM.out _ _ _ _ _ hu3 hu2).out.mono ?_
          rintro e w3 ⟨rfl, t3⟩
          have HT3 : Hid _ := ((HT.out.trans t1 (by simp)).trans t2 (by simp)).trans t3 (by simp)
          clear hu1 hu2 hu3 t1 t2 t3
          go_wp2
          go_ret
          exact ⟨rfl, HT3.out⟩

/-- Deeds, one behind the other. -/
def runW (L : List WD) (ds : List DeedW) : List WD := ds.foldl stepW L
theorem runW_snoc (L : List WD) {ds : List DeedW} {j : Nat} (hj : j < ds.length) : runW L (ds.take (j + 1)) = stepW (runW L (ds.take j)) ds[j] := by
  unfold runW; rw [List.take_succ_eq_append_getElem hj, List.foldl_append]; rfl

/-- What play comes to. -/
def PlayPost (w : World) (L : List WD) (e : Ending) (w' : World) : Prop := ∃ b F r G, e = .returned (.tuple #[ptr b, ptr r, .bool true]) ∧ PM w w' b F 60 L r G L

theorem deed_cells {w W : World} {ao : Option Addr} {cap : Nat} {ds : List DeedW} (h : DeedWRow w (.slice ao ds.length cap) ds) (t : Touch w W []) (j : Nat) (hj : j < ds.length) :
    ∃ g off, ao = some ⟨g, off, none⟩ ∧ W.cell? ⟨g, off + j * 3, none⟩ = some (.int .i64 ds[j].k) ∧ W.cell? ⟨g, off + j * 3 + 1, none⟩ = some (.int .i64 ds[j].th) ∧ W.cell? ⟨g, off + j * 3 + 2, none⟩ = some (.slice ds[j].ao ds[j].t.length ds[j].cap) := by
  obtain ⟨g, off, e, hg, hc⟩ := h.at j hj
  exact ⟨g, off, e, (t.cell (p := ⟨g, off + j * 3, none⟩) hg (by simp)).trans (hc 0 (by omega)), (t.cell (p := ⟨g, off + j * 3 + 1, none⟩) hg (by simp)).trans (hc 1 (by omega)), (t.cell (p := ⟨g, off + j * 3 + 2, none⟩) hg (by simp)).trans (hc 2 (by omega))⟩

set_option maxRecDepth 100000 in
set_option maxHeartbeats 2000000 in
theorem play_any {w : World} {ao : Option Addr} {cap : Nat} {ds : List DeedW} (hr : DeedWRow w (.slice ao ds.length cap) ds) (hwf : ∀ d ∈ ds, d.Wf w) (hl : ds.length ≤ maxLen) :
    Calls Try.prog 20 #[.slice ao ds.length cap] w (PlayPost w (runW [] (ds.take 60))) := by
  have hl2 : ds.length ≤ 9223372036854775807 := by unfold maxLen at hl; omega
  have HR : Hid _ := hr
  have HW : Hid _ := hwf
  obtain ⟨N, hN⟩ : ∃ N, N = ds.length := ⟨_, rfl⟩
  have HN : Hid _ := hN
  have hnew : HidC _ _ _ _ _ := ⟨new_any w⟩
  rw [← hN] at hl2 ⊢
  clear hr hwf hl hN
  go_enter Try.func20, Try.ntmps20
  go_wp2_with fail
  refine hnew.out.mono ?_
  rintro e w1 ⟨b, F, rfl, h1, t1, hF⟩
  clear hnew
  go_wp2_with fail
  refine (rnew_any w1).mono ?_
  rintro e w2 ⟨r, G, rfl, h2, t2, hG⟩
  have HPM : Hid (PM w w2 b F 0 [] r G []) := ⟨h1.touch t2 (by simp), h2, fun x hx hg => by have := h1.lt x hx; have := hG x hg; omega, hF, fun x hx => Nat.le_trans t1.size (hG x hx), t1.trans t2 (by simp)⟩
  clear h1 h2 t1 t2 hF hG
  go_wp2_with fail
  go_loopw [7] (fun i wr => ∃ j : Nat, i = .int .i64 j ∧ j ≤ N ∧ j ≤ 60 ∧ ∃ F G, PM w wr b F j (runW [] (ds.take j)) r G (runW [] (ds.take j))) (fun i _ => 60 - (intOf i).toNat)
  case atStart => exact ⟨0, rfl, Nat.zero_le _, Nat.zero_le _, F, G, HPM.out⟩
  case round =>
    obtain ⟨j, rfl, hj, hj60, F1, G1, hP⟩ := hrel
    by_cases hlt : j < N
    · have h1 : (j : Int) < N := by omega
      have h0 : (0 : Int) ≤ j := by omega
      by_cases h60 : j < 60
      · have h2 : (j : Int) < 60 := by omega
        have hjl : j < ds.length := by rw [← HN.out]; exact hlt
        obtain ⟨g, off, rfl, d0, d1, d2⟩ := deed_cells HR.out hP.t j hjl
        have HSN : Hid _ := runW_snoc [] hjl
        have hdo : HidC _ _ _ _ _ := ⟨do_any hP (by omega) ds[j] (HW.out _ (List.getElem_mem hjl))⟩
        rw [← HSN.out] at hdo
        generalize ds[j] = d at *
        clear hP HSN
        obtain ⟨dk, th, da, dc, tv⟩ := d
        simp only [DeedW.val] at hdo d0 d1 d2
        generalize tv.length = M at *
        go_wp2_with fail
        refine hdo.out.mono ?_
        rintro e w3 ⟨rfl, F2, G2, hP2⟩
        have HP2 : Hid _ := hP2
        clear hdo hP2 d0 d1 d2
        go_wp2
        go_roundw
        case rel => exact ⟨j + 1, by go_num, by omega, by omega, F2, G2, HP2.out⟩
        case measure => simp [intOf]; omega
      · obtain rfl : j = 60 := by omega
        have HP2 : Hid _ := hP
        clear hP
        go_wp2
        refine bodyPost_ret (v := .tuple #[ptr b, ptr r, .bool true]) (by simp [results, Try.results20, go_sem]) rfl ?_
        exact ⟨b, F1, r, G1, rfl, HP2.out⟩
    · obtain rfl : j = N := by omega
      have hall : ds.take j = ds := by rw [HN.out, List.take_length]
      have hall2 : ds.take 60 = ds := List.take_of_length_le (by rw [← HN.out]; omega)
      rw [hall] at hP
      have HP2 : Hid (PM w wr b F1 60 (runW [] (ds.take 60)) r G1 (runW [] (ds.take 60))) := by
        rw [hall2]
        exact ⟨hP.l.mono (by omega), hP.r, hP.ap, hP.fl, hP.gl, hP.t⟩
      clear hP hall hall2
      go_wp2
      refine bodyPost_ret (v := .tuple #[ptr b, ptr r, .bool true]) (by simp [results, Try.results20, go_sem]) rfl ?_
      exact ⟨b, F1, r, G1, rfl, HP2.out⟩

end Go.Proofs.Yteffdibdnoppjaa
