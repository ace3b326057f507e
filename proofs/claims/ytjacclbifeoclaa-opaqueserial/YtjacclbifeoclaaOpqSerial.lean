/-
  OpaqueSerial, THE WALK.
-/
import Derived.Test.YtjacclbifeoclaaOpqSerPl
import Derived.Test.YtjacclbifeoclaaOpqLive
import Derived.Test.YtjacclbifeoclaaOpqFew
import Derived.Test.YtjacclbifeoclaaHistRef
namespace Go.Proofs.Ytjacclbifeoclaa
set_option linter.unusedVariables false
set_option linter.unusedSimpArgs false
open Go.RowKit Go.Maps
attribute [local go_sem] Oper.semAt_some

theorem rev_nodup {l : List Int} (h : l.Nodup) : l.reverse.Nodup := (List.pairwise_reverse (R := fun a b : Int => a ≠ b)).2 (h.imp fun hab e => hab e.symm)
theorem sum_le (o : List Int) (e : EvD) (l : List EvD) (hn : o.Nodup) : (o.map fun a => (cutS a (e :: l)).length).sum ≤ (o.map fun a => (cutS a l).length).sum + 1 := by
  by_cases he : e.a ∈ o
  · rw [sum_cons o e l hn he]; exact Nat.le_refl _
  · have h3 : (o.map fun b => (cutS b (e :: l)).length) = o.map fun b => (cutS b l).length := by
      refine List.map_congr_left fun b hb => ?_
      have : ¬ e.a = b := fun x => he (x ▸ hb)
      simp [cutS, this]
    rw [h3]
    omega
theorem serial_le (l : List EvD) (o : List Int) (hn : o.Nodup) : (serialP l o).length ≤ l.length := by
  unfold serialP
  rw [List.length_flatMap]
  induction l with
  | nil =>
    have : ∀ xs : List Int, (xs.map fun a => (cutS a []).length).sum = 0 := fun xs => by
      induction xs with
      | nil => rfl
      | cons x xs ih => simp [cutS] at ih ⊢; try exact ih
    have := this o
    simp [cutS] at this ⊢
    try exact this
  | cons e l ih => have := sum_le o e l hn; simp only [List.length_cons]; omega

set_option maxRecDepth 100000 in
set_option maxHeartbeats 4000000 in
theorem rserial_any {w : World} {ve vo : Value} {l : List EvD} {o : List Int} (hr : EvRow w ve l) (hl : l.length ≤ 1000) (ho : IRow w vo o) (hol : o.length ≤ 1000) :
    Calls Try.prog 18 #[ve, vo] w fun e w' => ∃ v, e = .returned v ∧ evOwn w' w.heap.size v (serialP l o) ∧ Touch w w' [] := by
  obtain ⟨aE, cE, rfl⟩ := hr.form
  obtain ⟨aO, cO, rfl⟩ := ho.form
  have HHO : Hid (IRow w (.slice aO o.length cO) o) := ho
  have HCT : Hid (∀ W, Touch w W [] → ∀ a, Calls Try.prog 33 #[.slice aE l.length cE, .int .i64 a] W fun x w' => ∃ v, x = .returned v ∧ evOwn w' W.heap.size v (cutS a l) ∧ Touch W w' []) := fun W t a => rcut_any (SRow.keep hr t (by simp)) hl a
  have HCL : Hid (∀ a, (cutS a l).length ≤ 1000) := fun a => Nat.le_trans (cutS_le a l) hl
  have HSL : Hid (∀ k, (serialP l (o.take k)).length ≤ k * 1000) := fun k => by
    show (serialP l (o.take k)).length ≤ _
    unfold serialP
    rw [List.length_flatMap]
    have h1 : ∀ (xs : List Int), (xs.map fun a => (cutS a l).length).sum ≤ xs.length * 1000 := fun xs => by
      induction xs with
      | nil => simp
      | cons x xs ih => simp; have := Nat.le_trans (cutS_le x l) hl; omega
    have := h1 (o.take k)
    have h2 : (o.take k).length ≤ k := by simp; omega
    have h3 : (o.take k).length * 1000 ≤ k * 1000 := Nat.mul_le_mul_right _ h2
    omega
  obtain ⟨i0, hi, hz0, hz1, hz2⟩ := info_partsO Try.info_ev
  obtain ⟨N, hN⟩ : ∃ N, N = o.length := ⟨_, rfl⟩
  have HN : Hid (N = o.length) := hN
  rw [← hN] at hol ⊢
  clear hr ho hN
  generalize l.length = NE at *
  go_enter Try.func18, Try.ntmps18
  go_wp2_with fail
  go_loopw [5, 6] (fun s i wr => ∃ k : Nat, i = .int .i64 k ∧ k ≤ N ∧ evOwn wr w.heap.size s (serialP l (o.take k)) ∧ Touch w wr []) (fun _ i _ => N - (intOf i).toNat)
  case atStart => exact ⟨0, rfl, Nat.zero_le _, World.ownsRow_nil _ _ _ _, Touch.refl _ _⟩
  case round =>
    obtain ⟨k, rfl, hk, hown, t⟩ := hrel
    obtain ⟨aS, cS, hf⟩ := owns_slice hown
    have HT : Hid (Touch w wr []) := t
    by_cases hlt : k < N
    · have h1 : (k : Int) < N := by omega
      have h0 : (0 : Int) ≤ k := by omega
      have hkl : k < o.length := by rw [← HN.out]; exact hlt
      obtain ⟨g, off, rfl, hg, d0⟩ := IRow.one (SRow.keep HHO.out t (by simp)) k hkl
      have hct := HCT.out wr t o[k]
      have hsn : serialP l (o.take (k + 1)) = serialP l (o.take k) ++ cutS o[k] l := by
        unfold serialP
        rw [take_snoc hkl, List.flatMap_append]
        simp
      have hcl := HCL.out o[k]
      have hsl := HSL.out k
      generalize o[k] = a at *
      generalize hS1 : serialP l (o.take (k + 1)) = SP1 at *
      have HS1 : Hid (serialP l (o.take (k + 1)) = SP1) := hS1
      clear hS1
      generalize serialP l (o.take k) = SP at *
      have HSN : Hid (SP1 = SP ++ cutS a l) := hsn
      have HOWN : Hid (evOwn wr w.heap.size u5 SP) := hown
      have HF : Hid _ := hf
      have HCL2 : Hid _ := hcl
      have HSL2 : Hid _ := hsl
      clear t hsn hown hf hcl hsl
      go_wp2_with fail
      refine hct.mono ?_
      rintro e w2 ⟨v2, rfl, hv2, t2⟩
      clear hct
      have o2 := ownsRow_touch HOWN.out t2 (by simp)
      have hsz := HT.out.size
      have hsz2 := t2.size
      obtain ⟨a2, c2, rfl⟩ := owns_slice hv2
      obtain ⟨v', w3, hrun, h2, h3, h4⟩ := run_app (P := Try.prog) (cells := EvD.cells) 22 22 51 i0 _ 4 32 Try.underlying22 hi hz0 hz1 hz2 rfl (by decide) (fun _ => rfl) (by intro x u hu; simp [EvD.cells] at hu; rcases hu with rfl | rfl | rfl | rfl <;> rfl) o2 (srow_of (cells := EvD.cells) (fun _ => rfl) hv2) (by have := HCL2.out; have := HSL2.out; omega) (by decide) (by omega)
      have T3 : Touch w w3 [] := (HT.out.trans t2 (by simp)).grown h3 (fun g hg => .inr (o2.lt g hg).1)
      have HO3 : Hid (evOwn w3 w.heap.size v' SP1) := by
        show World.ownsRow _ _ _ _ _ _ _
        rw [HSN.out]
        simpa using h2
      have HT3 : Hid _ := T3
      rw [HF.out] at hrun ⊢
      obtain ⟨a3, c3, rfl⟩ := owns_slice HO3.out
      clear hv2 t2 o2 h2 h3 h4 T3
      generalize SP1.length = M1 at *
      generalize SP.length = M at *
      generalize (cutS a l).length = M2 at *
      go_wp2_with (at_builtin; refine Lib.wpList_append_run _ rfl _ _ _ _ rfl _ _ rfl rfl _ _ hrun ?_)
      go_roundw
      case rel => exact ⟨k + 1, by go_num, by omega, by rw [HS1.out]; exact HO3.out, HT3.out⟩
      case measure => simp [intOf]; omega
    · obtain rfl : k = N := by omega
      have HO3 : Hid (evOwn wr w.heap.size u5 (serialP l o)) := by
        rw [HN.out, List.take_length] at hown
        exact hown
      rw [HN.out, List.take_length] at hf
      have HF : Hid _ := hf
      clear hown hf t
      subst_vars
      go_wp2
      go_ret
      exact ⟨_, rfl, HO3.out, HT.out⟩

set_option maxRecDepth 100000 in
set_option maxHeartbeats 8000000 in
theorem oserial_any (ao : Option Addr) (cap : Nat) (l0 : List EvD) (tn : Bool) (w : World) (hr : EvRow w (.slice ao l0.length cap) l0) (hc : l0.length ≤ cap ∧ cap ≤ maxLen) (hwf : ∀ e ∈ l0, e.Wf) :
    Calls Try.prog 5 #[.slice ao l0.length cap, .bool tn] w (TrueN w) := by
  have hfw := ofew_any ao cap l0 w hc.1
  obtain ⟨l, hl1⟩ : ∃ l, l = l0.take 50 := ⟨_, rfl⟩
  rw [← hl1] at hfw
  have hr1 : EvRow w (.slice ao l.length cap) l := by rw [hl1]; exact SRow.takeN hr 50
  have hwf1 : ∀ e ∈ l, e.Wf := fun e he => hwf e (by rw [hl1] at he; exact List.take_subset _ _ he)
  have hll : l.length ≤ 50 := by rw [hl1]; simp; omega
  have hat0 := attempts_any hr1 (by omega) hwf1
  have HRI : Hid (∀ W, Touch w W [] → Calls Try.prog 19 #[.slice ao l.length cap] W fun e w' => e = .returned (.bool (rightS l)) ∧ Touch W w' []) := fun W t => right_of (SRow.keep hr1 t (by simp)) (by omega) hwf1
  have HSE : Hid (∀ W vo o, Touch w W [] → IRow W vo o → o.length ≤ 1000 → Calls Try.prog 16 #[.slice ao l.length cap, vo] W fun e w' => ∃ v, e = .returned v ∧ evOwn w' W.heap.size v (serialP l o) ∧ Touch W w' []) := fun W vo o t ho hol => serial_any (SRow.keep hr1 t (by simp)) (by omega) ho hol
  have HRSG : Hid (∀ W vo o, Touch w W [] → IRow W vo o → o.length ≤ 1000 → Calls Try.prog 18 #[.slice ao l.length cap, vo] W fun e w' => ∃ v, e = .returned v ∧ evOwn w' W.heap.size v (serialP l o) ∧ Touch W w' []) := fun W vo o t ho hol => rserial_any (SRow.keep hr1 t (by simp)) (by omega) ho hol
  have HAW : Hid (∀ o, ∀ e ∈ serialP l o, e.Wf) := fun o e he => by
    obtain ⟨a, _, h2⟩ := List.mem_flatMap.1 he
    exact cutS_wf hwf1 a e h2
  have hAL : (attS l).length ≤ 50 := Nat.le_trans (attS_le l) hll
  have HSLE : Hid (∀ o : List Int, o.Nodup → (serialP l o).length ≤ 50) := fun o hn => Nat.le_trans (serial_le l o hn) hll
  clear hr hwf hr1 hwf1 hl1 hc
  generalize hNL : l.length = NL at *
  have HNL : Hid (l.length = NL) := hNL
  clear hNL
  generalize l0.length = NL0 at *
  obtain ⟨i0, hi, hz0, hz1, hz2⟩ := info_partsO Try.info_int
  have HI : Hid _ := And.intro hi (And.intro hz0 (And.intro hz1 hz2))
  clear hi hz0 hz1 hz2
  cases tn with
  | false =>
    go_enter Try.func5, Try.ntmps5
    go_wp2_with fail
    refine hfw.mono ?_
    rintro e w1 ⟨rfl, rfl⟩
    clear hfw
    go_wp2_with fail
    refine hat0.mono ?_
    rintro e W0 ⟨vA, rfl, hvA, tA⟩
    clear hat0
    obtain ⟨o, ho⟩ : ∃ o, o = attS l := ⟨_, rfl⟩
    rw [← ho] at hvA hAL
    have hse := HSE.out W0 vA o tA (irow_of hvA) (by omega)
    have HND : Hid o.Nodup := by show o.Nodup; rw [ho]; exact attS_nodup l
    have HME : Hid ((∀ a ∈ o, a ∈ attS l) ∧ ∀ a ∈ attS l, a ∈ o) := by rw [ho]; exact ⟨fun a h => h, fun a h => h⟩
    have HO0 := irow_of hvA
    obtain ⟨aO, cO, rfl⟩ := owns_slice hvA
    have HTO : Hid (Touch w W0 []) := tA
    have HRS : Hid (∀ W vo, Touch w W [] → IRow W vo o → Calls Try.prog 18 #[.slice ao NL cap, vo] W fun e w' => ∃ v, e = .returned v ∧ evOwn w' W.heap.size v (serialP l o) ∧ Touch W w' []) := fun W vo t h => HRSG.out W vo o t h (by omega)
    have HSW : Hid (∀ e ∈ serialP l o, e.Wf) := HAW.out o
    have hol : o.length ≤ 1000 := by omega
    clear hvA tA ho HSE HRSG HAW
    generalize hNO : o.length = NO at HO0 hse ⊢
    have HO : Hid (IRow W0 (.slice aO NO cO) o) := HO0
    clear HO0 hNO
    go_wp2_with fail
    refine hse.mono ?_
    rintro e w3 ⟨v3, rfl, hv3, t3⟩
    have T3 := HTO.out.trans t3 (by simp)
    have hrs := HRS.out w3 (.slice aO NO cO) T3 (SRow.keep HO.out t3 (by simp))
    obtain ⟨a3, c3, hf3⟩ := owns_slice hv3
    have HT3 : Hid (Touch w w3 []) := T3
    have HV3 : Hid (evOwn w3 W0.heap.size v3 (serialP l o)) := hv3
    have HO3 : Hid (IRow w3 (.slice aO NO cO) o) := SRow.keep HO.out t3 (by simp)
    clear hse hv3 t3 T3
    subst hf3
    generalize hSL : (serialP l o).length = SL at *
    have HSL : Hid ((serialP l o).length = SL) := hSL
    clear hSL
    have hslb : SL ≤ 1000 := by have := HSLE.out o HND.out; have := HSL.out; omega
    go_wp2_with fail
    refine hrs.mono ?_
    rintro e w4 ⟨v4, rfl, hv4, t4⟩
    have hEv4 : EvRow w4 (.slice a3 SL c3) (serialP l o) := by
      have := srow_of (cells := EvD.cells) (n := 4) (fun _ => rfl) HV3.out
      exact SRow.keep this t4 (by simp)
    have hsm := sameEv (.slice a3 SL c3) v4 (serialP l o) w4 (by rw [HSL.out]; exact hslb) hEv4 (srow_of (cells := EvD.cells) (n := 4) (fun _ => rfl) hv4)
    have HT4 : Hid (Touch w w4 []) := HT3.out.trans t4 (by simp)
    have HE4 : Hid (EvRow w4 (.slice a3 SL c3) (serialP l o)) := hEv4
    have HO4 : Hid (IRow w4 (.slice aO NO cO) o) := SRow.keep HO3.out t4 (by simp)
    obtain ⟨a4, c4, hf4⟩ := owns_slice hv4
    clear hrs hv4 t4 hEv4
    subst hf4
    rw [HSL.out] at hsm ⊢
    go_wp2_with fail
    refine hsm.mono ?_
    rintro e w5 ⟨rfl, t5⟩
    clear hsm
    have hri := HRI.out w5 (HT4.out.trans t5 (by simp))
    have HT5 : Hid (Touch w w5 []) := HT4.out.trans t5 (by simp)
    have HE5 : Hid (EvRow w5 (.slice a3 SL c3) (serialP l o)) := SRow.keep HE4.out t5 (by simp)
    have HO5 : Hid (IRow w5 (.slice aO NO cO) o) := SRow.keep HO4.out t5 (by simp)
    clear t5
    cases hq : rightS l with
    | false =>
      rw [hq] at hri
      clear hq
      go_wp2_with fail
      refine hri.mono ?_
      rintro e w6 ⟨rfl, t6⟩
      clear hri
      have hlv := olive_any w6
      have HT6 : Hid (Touch w w6 []) := HT5.out.trans t6 (by simp)
      clear t6
      go_wp2_with fail
      refine hlv.mono ?_
      rintro e w7 ⟨rfl, t7⟩
      clear hlv
      go_wp2
      go_ret
      exact ⟨rfl, HT6.out.trans t7 (by simp)⟩
    | true =>
      rw [hq] at hri
      have hbg := all_began hq
      have hlen : SL = NL := by
        rw [← HSL.out, serial_len l o HND.out (fun e he => HME.out.2 _ (hbg e he)), HNL.out]
      have hrt := serial_right hq HND.out (fun e he => HME.out.2 _ (hbg e he))
      have hat := serial_att HND.out HME.out.1
      subst hlen
      have HRT : Hid _ := hrt
      have HAT : Hid _ := hat
      clear hq hbg hrt hat
      go_wp2_with fail
      refine hri.mono ?_
      rintro e w6 ⟨rfl, t6⟩
      clear hri
      have hlv := olive_any w6
      have HT6 : Hid (Touch w w6 []) := HT5.out.trans t6 (by simp)
      have HE6 : Hid (EvRow w6 (.slice a3 SL c3) (serialP l o)) := SRow.keep HE5.out t6 (by simp)
      have HO6 : Hid (IRow w6 (.slice aO NO cO) o) := SRow.keep HO5.out t6 (by simp)
      clear t6
      go_wp2_with fail
      refine hlv.mono ?_
      rintro e w7 ⟨rfl, t7⟩
      clear hlv
      have hE7 : EvRow w7 (.slice a3 (serialP l o).length c3) (serialP l o) := by rw [HSL.out]; exact SRow.keep HE6.out t7 (by simp)
      have hr7 := right_of hE7 (by rw [HSL.out]; exact hslb) HSW.out
      rw [HRT.out, HSL.out] at hr7
      have HT7 : Hid (Touch w w7 []) := HT6.out.trans t7 (by simp)
      have HE7 : Hid (EvRow w7 (.slice a3 SL c3) (serialP l o)) := SRow.keep HE6.out t7 (by simp)
      have HO7 : Hid (IRow w7 (.slice aO NO cO) o) := SRow.keep HO6.out t7 (by simp)
      clear t7 hE7
      go_wp2_with fail
      refine hr7.mono ?_
      rintro e w8 ⟨rfl, t8⟩
      clear hr7
      have hE8 : EvRow w8 (.slice a3 (serialP l o).length c3) (serialP l o) := by rw [HSL.out]; exact SRow.keep HE7.out t8 (by simp)
      have ha8 := attempts_any hE8 (by rw [HSL.out]; exact hslb) HSW.out
      rw [HAT.out, HSL.out] at ha8
      have HT8 : Hid (Touch w w8 []) := HT7.out.trans t8 (by simp)
      have HO8 : Hid (IRow w8 (.slice aO NO cO) o) := SRow.keep HO7.out t8 (by simp)
      clear t8 hE8
      go_wp2_with fail
      refine ha8.mono ?_
      rintro e w9 ⟨v9, rfl, hv9, t9⟩
      clear ha8
      have hsi := sameI_any v9 (.slice aO NO cO) o w9 hol (irow_of hv9) (SRow.keep HO8.out t9 (by simp))
      have HT9 : Hid (Touch w w9 []) := HT8.out.trans t9 (by simp)
      obtain ⟨a9, c9, rfl⟩ := owns_slice hv9
      clear t9 hv9
      generalize o.length = OL at hsi ⊢
      go_wp2_with fail
      refine hsi.mono ?_
      rintro e w10 ⟨rfl, t10⟩
      clear hsi
      go_wp2
      go_ret
      exact ⟨rfl, HT9.out.trans t10 (by simp)⟩
  | true =>
    go_enter Try.func5, Try.ntmps5
    go_wp2_with fail
    refine hfw.mono ?_
    rintro e w1 ⟨rfl, rfl⟩
    clear hfw
    go_wp2_with fail
    refine hat0.mono ?_
    rintro e w1 ⟨vA, rfl, hvA, tA⟩
    clear hat0
    obtain ⟨A, hA⟩ : ∃ A, A = attS l := ⟨_, rfl⟩
    rw [← hA] at hvA hAL
    have HA : Hid (A = attS l) := hA
    have HIA : Hid (IRow w1 vA A) := irow_of hvA
    obtain ⟨aA, cA, rfl⟩ := owns_slice hvA
    have HTA : Hid (Touch w w1 []) := tA
    generalize hNA : A.length = NA at HIA hAL ⊢
    have HNA : Hid (A.length = NA) := hNA
    clear hvA tA hA hNA
    go_wp2_with fail
    go_loopw [6, 7] (fun b i wr => ∃ k : Nat, i = .int .i64 ((k : Int) - 1) ∧ k ≤ NA ∧ intOwn wr w1.heap.size b (A.drop k).reverse ∧ Touch w1 wr []) (fun _ i _ => (intOf i + 1).toNat)
    case atStart =>
      refine ⟨NA, by go_num, Nat.le_refl _, ?_, Touch.refl _ _⟩
      rw [← HNA.out, List.drop_length]
      exact World.ownsRow_nil _ _ _ _
    case round =>
      obtain ⟨k, rfl, hk, hown, t⟩ := hrel
      have HT : Hid (Touch w wr []) := HTA.out.trans t (by simp)
      by_cases hk0 : k = 0
      · subst hk0
        obtain ⟨o, ho⟩ : ∃ o, o = A.reverse := ⟨_, rfl⟩
        rw [List.drop_zero, ← ho] at hown
        have hol : o.length ≤ 50 := by rw [ho, List.length_reverse, HNA.out]; exact hAL
        have hse := HSE.out wr u6 o HT.out (irow_of hown) (by omega)
        have HND : Hid o.Nodup := by show o.Nodup; rw [ho, HA.out]; exact rev_nodup (attS_nodup l)
        have HME : Hid ((∀ a ∈ o, a ∈ attS l) ∧ ∀ a ∈ attS l, a ∈ o) := by rw [ho, HA.out]; exact ⟨fun a h => List.mem_reverse.1 h, fun a h => List.mem_reverse.2 h⟩
        have HO0 := irow_of hown
        obtain ⟨aO, cO, hfO⟩ := owns_slice hown
        have HRS : Hid (∀ W vo, Touch w W [] → IRow W vo o → Calls Try.prog 18 #[.slice ao NL cap, vo] W fun e w' => ∃ v, e = .returned v ∧ evOwn w' W.heap.size v (serialP l o) ∧ Touch W w' []) := fun W vo t h => HRSG.out W vo o t h (by omega)
        have HSW : Hid (∀ e ∈ serialP l o, e.Wf) := HAW.out o
        have hol : o.length ≤ 1000 := by omega
        have HTO : Hid (Touch w wr []) := HT.out
        clear hown t ho HSE HRSG HAW HIA HTA HT HI
        subst hfO
        generalize hNO : o.length = NO at HO0 hse ⊢
        have HO : Hid (IRow wr (.slice aO NO cO) o) := HO0
        clear HO0 hNO
        obtain ⟨W0, hW0⟩ : ∃ W0, W0 = wr := ⟨_, rfl⟩
        rw [← hW0] at HO hse HTO ⊢
        clear hW0
        go_wp2_with fail
        refine hse.mono ?_
        rintro e w3 ⟨v3, rfl, hv3, t3⟩
        have T3 := HTO.out.trans t3 (by simp)
        have hrs := HRS.out w3 (.slice aO NO cO) T3 (SRow.keep HO.out t3 (by simp))
        obtain ⟨a3, c3, hf3⟩ := owns_slice hv3
        have HT3 : Hid (Touch w w3 []) := T3
        have HV3 : Hid (evOwn w3 W0.heap.size v3 (serialP l o)) := hv3
        have HO3 : Hid (IRow w3 (.slice aO NO cO) o) := SRow.keep HO.out t3 (by simp)
        clear hse hv3 t3 T3
        subst hf3
        generalize hSL : (serialP l o).length = SL at *
        have HSL : Hid ((serialP l o).length = SL) := hSL
        clear hSL
        have hslb : SL ≤ 1000 := by have := HSLE.out o HND.out; have := HSL.out; omega
        go_wp2_with fail
        refine hrs.mono ?_
        rintro e w4 ⟨v4, rfl, hv4, t4⟩
        have hEv4 : EvRow w4 (.slice a3 SL c3) (serialP l o) := by
          have := srow_of (cells := EvD.cells) (n := 4) (fun _ => rfl) HV3.out
          exact SRow.keep this t4 (by simp)
        have hsm := sameEv (.slice a3 SL c3) v4 (serialP l o) w4 (by rw [HSL.out]; exact hslb) hEv4 (srow_of (cells := EvD.cells) (n := 4) (fun _ => rfl) hv4)
        have HT4 : Hid (Touch w w4 []) := HT3.out.trans t4 (by simp)
        have HE4 : Hid (EvRow w4 (.slice a3 SL c3) (serialP l o)) := hEv4
        have HO4 : Hid (IRow w4 (.slice aO NO cO) o) := SRow.keep HO3.out t4 (by simp)
        obtain ⟨a4, c4, hf4⟩ := owns_slice hv4
        clear hrs hv4 t4 hEv4
        subst hf4
        rw [HSL.out] at hsm ⊢
        go_wp2_with fail
        refine hsm.mono ?_
        rintro e w5 ⟨rfl, t5⟩
        clear hsm
        have hri := HRI.out w5 (HT4.out.trans t5 (by simp))
        have HT5 : Hid (Touch w w5 []) := HT4.out.trans t5 (by simp)
        have HE5 : Hid (EvRow w5 (.slice a3 SL c3) (serialP l o)) := SRow.keep HE4.out t5 (by simp)
        have HO5 : Hid (IRow w5 (.slice aO NO cO) o) := SRow.keep HO4.out t5 (by simp)
        clear t5
        cases hq : rightS l with
        | false =>
          rw [hq] at hri
          clear hq
          go_wp2_with fail
          refine hri.mono ?_
          rintro e w6 ⟨rfl, t6⟩
          clear hri
          have hlv := olive_any w6
          have HT6 : Hid (Touch w w6 []) := HT5.out.trans t6 (by simp)
          clear t6
          go_wp2_with fail
          refine hlv.mono ?_
          rintro e w7 ⟨rfl, t7⟩
          clear hlv
          go_wp2
          go_ret
          exact ⟨rfl, HT6.out.trans t7 (by simp)⟩
        | true =>
          rw [hq] at hri
          have hbg := all_began hq
          have hlen : SL = NL := by
            rw [← HSL.out, serial_len l o HND.out (fun e he => HME.out.2 _ (hbg e he)), HNL.out]
          have hrt := serial_right hq HND.out (fun e he => HME.out.2 _ (hbg e he))
          have hat := serial_att HND.out HME.out.1
          subst hlen
          have HRT : Hid _ := hrt
          have HAT : Hid _ := hat
          clear hq hbg hrt hat
          go_wp2_with fail
          refine hri.mono ?_
          rintro e w6 ⟨rfl, t6⟩
          clear hri
          have hlv := olive_any w6
          have HT6 : Hid (Touch w w6 []) := HT5.out.trans t6 (by simp)
          have HE6 : Hid (EvRow w6 (.slice a3 SL c3) (serialP l o)) := SRow.keep HE5.out t6 (by simp)
          have HO6 : Hid (IRow w6 (.slice aO NO cO) o) := SRow.keep HO5.out t6 (by simp)
          clear t6
          go_wp2_with fail
          refine hlv.mono ?_
          rintro e w7 ⟨rfl, t7⟩
          clear hlv
          have hE7 : EvRow w7 (.slice a3 (serialP l o).length c3) (serialP l o) := by rw [HSL.out]; exact SRow.keep HE6.out t7 (by simp)
          have hr7 := right_of hE7 (by rw [HSL.out]; exact hslb) HSW.out
          rw [HRT.out, HSL.out] at hr7
          have HT7 : Hid (Touch w w7 []) := HT6.out.trans t7 (by simp)
          have HE7 : Hid (EvRow w7 (.slice a3 SL c3) (serialP l o)) := SRow.keep HE6.out t7 (by simp)
          have HO7 : Hid (IRow w7 (.slice aO NO cO) o) := SRow.keep HO6.out t7 (by simp)
          clear t7 hE7
          go_wp2_with fail
          refine hr7.mono ?_
          rintro e w8 ⟨rfl, t8⟩
          clear hr7
          have hE8 : EvRow w8 (.slice a3 (serialP l o).length c3) (serialP l o) := by rw [HSL.out]; exact SRow.keep HE7.out t8 (by simp)
          have ha8 := attempts_any hE8 (by rw [HSL.out]; exact hslb) HSW.out
          rw [HAT.out, HSL.out] at ha8
          have HT8 : Hid (Touch w w8 []) := HT7.out.trans t8 (by simp)
          have HO8 : Hid (IRow w8 (.slice aO NO cO) o) := SRow.keep HO7.out t8 (by simp)
          clear t8 hE8
          go_wp2_with fail
          refine ha8.mono ?_
          rintro e w9 ⟨v9, rfl, hv9, t9⟩
          clear ha8
          have hsi := sameI_any v9 (.slice aO NO cO) o w9 hol (irow_of hv9) (SRow.keep HO8.out t9 (by simp))
          have HT9 : Hid (Touch w w9 []) := HT8.out.trans t9 (by simp)
          obtain ⟨a9, c9, rfl⟩ := owns_slice hv9
          clear t9 hv9
          generalize o.length = OL at hsi ⊢
          go_wp2_with fail
          refine hsi.mono ?_
          rintro e w10 ⟨rfl, t10⟩
          clear hsi
          go_wp2
          go_ret
          exact ⟨rfl, HT9.out.trans t10 (by simp)⟩
      · obtain ⟨m, rfl⟩ : ∃ m, k = m + 1 := ⟨k - 1, by omega⟩
        have hml : m < A.length := by rw [HNA.out]; omega
        obtain ⟨g, off, hgo, hg, d0⟩ := IRow.one (by have := SRow.keep HIA.out t (by simp); rw [← HNA.out] at this; exact this) m hml
        subst hgo
        have hsn : (A.drop m).reverse = (A.drop (m + 1)).reverse ++ [A[m]] := by rw [List.drop_eq_getElem_cons hml, List.reverse_cons]
        have hln : (A.drop (m + 1)).reverse.length ≤ 50 := by rw [List.length_reverse, List.length_drop, HNA.out]; omega
        obtain ⟨hi, hz0, hz1, hz2⟩ := HI.out
        generalize A[m] = x at *
        generalize hS1 : (A.drop m).reverse = S1 at *
        generalize (A.drop (m + 1)).reverse = S0 at *
        have TB : Touch wr (wr.alloc (.cells #[.int .i64 x] 3)) [] := (Touch.refl wr []).alloc _
        have hsz := t.size
        have hnew : IRow (wr.alloc (.cells #[.int .i64 x] 3)) (.slice (some ⟨wr.heap.size, 0, none⟩) [x].length 1) [x] := srow_new (cells := fun x : Int => [Value.int .i64 x]) (fun _ => rfl) wr [x] 3 1
        obtain ⟨v', w3, hrun, h2, h3, h4⟩ := run_app (P := Try.prog) (cells := fun x : Int => [Value.int .i64 x]) 24 24 3 i0 _ 1 8 Try.underlying24 hi hz0 hz1 hz2 rfl (by decide) (fun _ => rfl) (by simp [Value.oneCell']) (ownsRow_touch hown TB (by simp)) hnew (by simp; omega) (by decide) (by simp; omega)
        have T3 : Touch w1 w3 [] := (t.trans TB (by simp)).grown h3 (fun g hg => .inr (hown.lt g hg).1)
        have HO3 : Hid (intOwn w3 w1.heap.size v' S1) := by
          show World.ownsRow _ _ _ _ _ _ _
          rw [hsn]
          simpa using h2
        have HT3 : Hid _ := T3
        have HS1 : Hid _ := hS1
        obtain ⟨a3, c3, rfl⟩ := owns_slice HO3.out
        obtain ⟨aS, cS, hf⟩ := owns_slice hown
        rw [hf] at hrun ⊢
        have q1 : (m : Int) < NA := by omega
        have q0 : (0 : Int) ≤ m := by omega
        have q2 : ((m + 1 : Nat) : Int) - 1 = m := by omega
        rw [q2]
        clear hown t TB h2 h3 h4 T3 hsn hln hS1 hnew hf hi hz0 hz1 hz2 hml q2
        generalize S1.length = M1 at *
        generalize S0.length = M0 at *
        simp only [List.length_singleton] at hrun
        go_wp2_with (at_builtin; refine Lib.wpList_append_run _ rfl _ _ _ _ rfl _ _ rfl rfl _ _ hrun ?_)
        go_roundw
        case rel => exact ⟨m, by go_num, by omega, by rw [HS1.out]; exact HO3.out, HT3.out⟩
        case measure => first | (simp [intOf]; done) | (simp [intOf]; omega)

end Go.Proofs.Ytjacclbifeoclaa
