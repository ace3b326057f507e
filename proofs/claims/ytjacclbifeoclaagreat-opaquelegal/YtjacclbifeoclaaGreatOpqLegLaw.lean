/-
  OpaqueLegal, THE WALK.
-/
import Derived.Test.YtjacclbifeoclaaGreatOpqLegR
import Derived.Test.YtjacclbifeoclaaGreatOpqAborts
namespace Go.Proofs.YtjacclbifeoclaaGreat
set_option linter.unusedVariables false
set_option linter.unusedSimpArgs false
open Go.RowKit Go.Maps Go.Shelf
attribute [local go_sem] Oper.semAt_some

set_option maxRecDepth 100000 in
set_option maxHeartbeats 8000000 in
theorem olegal_any (ao bo aL aC : Option Addr) (capA capB cL cC : Nat) (l0 : List EvD) (h0 L0 C0 : List Int) (w : World) (hr : EvRow w (.slice ao l0.length capA) l0) (hcA : l0.length ≤ capA ∧ capA ≤ maxLen) (hwf : ∀ e ∈ l0, e.Wf) (hh : VRow w (.slice bo h0.length capB) h0) (hcB : h0.length ≤ capB ∧ capB ≤ maxLen) (hhw : ∀ x ∈ h0, Wf64 x)
    (hL : IRow w (.slice aL L0.length cL) L0) (hcL : L0.length ≤ cL) (hC : IRow w (.slice aC C0.length cC) C0) (hcC : C0.length ≤ cC) :
    Calls Tryz.prog 3 #[.slice ao l0.length capA, .slice bo h0.length capB, .agg #[.slice aL L0.length cL, .slice aC C0.length cC]] w (TrueN w) := by
  have hfw := ofew_any ao capA l0
  have hhp := oheaped_any bo capB h0
  have hrg := oright_any aL aC L0.length cL C0.length cC hcL hcC
  obtain ⟨l, hl1⟩ : ∃ l, l = l0.take 50 := ⟨_, rfl⟩
  obtain ⟨hp, hhp1⟩ : ∃ hp, hp = h0.take 13 := ⟨_, rfl⟩
  obtain ⟨L, hL1⟩ : ∃ L, L = L0.take 12 := ⟨_, rfl⟩
  obtain ⟨C, hC1⟩ : ∃ C, C = C0.take 6 := ⟨_, rfl⟩
  rw [← hl1] at hfw
  rw [← hhp1] at hhp
  rw [← takeN_len, ← takeN_len, ← hL1, ← hC1] at hrg
  have HFW : Hid (∀ W, Calls Tryz.prog 4 #[.slice ao l0.length capA] W fun e w' => e = .returned (.slice ao l.length capA) ∧ W = w') := fun W => hfw W hcA.1
  have HHP : Hid (∀ W, Calls Tryz.prog 5 #[.slice bo h0.length capB] W fun e w' => e = .returned (.slice bo hp.length capB) ∧ W = w') := fun W => hhp W hcB.1
  have HRG : Hid (∀ W, Calls Tryz.prog 6 #[.agg #[.slice aL L0.length cL, .slice aC C0.length cC]] W fun e w' => e = .returned (.agg #[.slice aL L.length cL, .slice aC C.length cC]) ∧ Touch W w' []) := hrg
  have hrl : EvRow w (.slice ao l.length capA) l := by rw [hl1]; exact SRow.takeN hr 50
  have hvh : VRow w (.slice bo hp.length capB) hp := by rw [hhp1]; exact SRow.takeN hh 13
  have hil : IRow w (.slice aL L.length cL) L := by rw [hL1]; exact SRow.takeN hL 12
  have hic : IRow w (.slice aC C.length cC) C := by rw [hC1]; exact SRow.takeN hC 6
  have hwl : ∀ e ∈ l, e.Wf := fun e he => hwf e (by rw [hl1] at he; exact List.take_subset _ _ he)
  have hwh : ∀ x ∈ hp, Wf64 x := fun e he => hhw e (by rw [hhp1] at he; exact List.take_subset _ _ he)
  have hll : l.length ≤ 50 := by rw [hl1]; simp; omega
  have hhl : hp.length ≤ 13 := by rw [hhp1]; simp; omega
  have hLl : L.length ≤ 12 := by rw [hL1]; simp; omega
  have hCl : C.length ≤ 6 := by rw [hC1]; simp; omega
  have hLc : L.length ≤ cL := by rw [hL1]; simp; omega
  have hCc : C.length ≤ cC := by rw [hC1]; simp; omega
  have HLG : Hid (∀ W, Touch w W [] → Calls Tryz.prog 7 #[.slice ao l.length capA, .slice bo hp.length capB, .slice aL L.length cL, .slice aC C.length cC] W (LegE W (legalP l hp L C))) := fun W t =>
    legal_any (SRow.keep hrl t (by simp)) (by omega) hwl (SRow.keep hvh t (by simp)) (by omega) (SRow.keep hil t (by simp)) (by omega) (fun a n c e => by simp at e; omega) (SRow.keep hic t (by simp)) (by omega) (fun a n c e => by simp at e; omega)
  have HRL : Hid (∀ W, Touch w W [] → Calls Tryz.prog 8 #[.slice ao l.length capA, .slice bo hp.length capB, .slice aL L.length cL, .slice aC C.length cC] W (LegE W (legalP l hp L C))) := fun W t =>
    rlegal_any (SRow.keep hrl t (by simp)) (by omega) hwl (SRow.keep hvh t (by simp)) (by omega) hwh (SRow.keep hil t (by simp)) (by omega) (fun a n c e => by simp at e; omega) (SRow.keep hic t (by simp)) (by omega) (fun a n c e => by simp at e; omega)
  have HHE : Hid (∀ W, Touch w W [] → Calls Tryz.prog 9 #[.slice ao l.length capA, .slice bo hp.length capB, .slice aL L.length cL, .slice aC C.length cC] W (HeapE W (legalP l hp L C))) := fun W t =>
    heap_any (SRow.keep hrl t (by simp)) (by omega) hwl (SRow.keep hvh t (by simp)) (by omega) (SRow.keep hil t (by simp)) (by omega) (fun a n c e => by simp at e; omega) (SRow.keep hic t (by simp)) (by omega) (fun a n c e => by simp at e; omega)
  have HRH : Hid (∀ W, Touch w W [] → Calls Tryz.prog 10 #[.slice ao l.length capA, .slice bo hp.length capB, .slice aL L.length cL, .slice aC C.length cC] W (HeapE W (legalP l hp L C))) := fun W t =>
    rheap_any (SRow.keep hrl t (by simp)) (by omega) hwl (SRow.keep hvh t (by simp)) (by omega) hwh (SRow.keep hil t (by simp)) (by omega) (fun a n c e => by simp at e; omega) (SRow.keep hic t (by simp)) (by omega) (fun a n c e => by simp at e; omega)
  have HHPL : Hid ((legalP l hp L C).2.1 = 0 → (legalP l hp L C).2.2.length ≤ 12) := fun h => legal_len (by omega) h
  generalize hLR : legalP l hp L C = LR at *
  clear hrl hvh hil hic hwl hwh hLR hLc hCc
  generalize l0.length = NL0 at *
  generalize h0.length = NH0 at *
  generalize L0.length = NLL at *
  generalize C0.length = NCC at *
  generalize hNl : l.length = Nl at *
  generalize hNh : hp.length = Nh at *
  generalize hNL : L.length = NL at *
  generalize hNC : C.length = NC at *
  clear hfw hhp hrg
  have hB1 : Box2 (w.alloc (.cells #[.slice aL NLL cL, .slice aC NCC cC] 26)) w.heap.size (.slice aL NLL cL) (.slice aC NCC cC) := heap_alloc_new _ _
  have T1 : Touch w (w.alloc (.cells #[.slice aL NLL cL, .slice aC NCC cC] 26)) [] := (Touch.refl w []).alloc _
  have HT1 : Hid _ := T1
  have HB1 : Hid (Box2 (w.alloc (.cells #[.slice aL NLL cL, .slice aC NCC cC] 26)) w.heap.size (.slice aL NLL cL) (.slice aC NCC cC)) := hB1
  clear T1 hB1 hr hwf hh hL hC hl1 hhp1 hL1 hC1 hhw hcA hcB hcL hcC
  clear hNl hNh hNL hNC
  go_enter Tryz.func3, Tryz.ntmps3
  go_wp2_with fail
  refine wp_name fun W hW => ?_
  have hB : Box2 W w.heap.size (.slice aL NLL cL) (.slice aC NCC cC) := by rw [hW]; exact HB1.out
  have HTW : Hid (Touch w W []) := by rw [hW]; exact HT1.out
  obtain ⟨c0, c1⟩ := hB.cells
  have z0 := hB.frozen 0
  have z1 := hB.frozen 1
  clear hW HB1 HT1
  have hfw := HFW.out
  have hhp := HHP.out
  have hrg := HRG.out
  have hd : Touch W W.drew [] := (Touch.refl W []).drew
  (first | go_region_with ((first | (go_at_call 4; refine (hfw _).mono ?_; rintro e w2 ⟨rfl, rfl⟩) | (go_at_call 5; refine (hhp _).mono ?_; rintro e w2 ⟨rfl, rfl⟩) | (go_at_call 6; refine (hrg _).mono ?_; rintro e w3 ⟨rfl, t3⟩; have b3 := hB.touch (hd.trans t3 (by simp)) (by simp); have HB3 : Hid (Box2 w3 w.heap.size (.slice aL NLL cL) (.slice aC NCC cC)) := b3; obtain ⟨k0, k1⟩ := b3.cells; have y0 := b3.frozen 0; have y1 := b3.frozen 1; clear b3))) | fail)
  all_goals (
    have hW4 : Box2 ((w3.setCell ⟨w.heap.size, 0, none⟩ (.slice aL NL cL)).setCell ⟨w.heap.size, 1, none⟩ (.slice aC NC cC)) w.heap.size (.slice aL NL cL) (.slice aC NC cC) := (HB3.out.set0 _).set1 _
    have hT4 : Touch w ((w3.setCell ⟨w.heap.size, 0, none⟩ (.slice aL NL cL)).setCell ⟨w.heap.size, 1, none⟩ (.slice aC NC cC)) [] := (((HTW.out.trans hd (by simp)).trans t3 (by simp)).setCell (.inr (Nat.le_refl _)) _).setCell (.inr (Nat.le_refl _)) _
    generalize (w3.setCell ⟨w.heap.size, 0, none⟩ (.slice aL NL cL)).setCell ⟨w.heap.size, 1, none⟩ (.slice aC NC cC) = W4 at *
    clear k0 k1 y0 y1 HB3 t3 hd c0 c1 z0 z1 hB HTW HFW HHP HRG hfw hhp hrg
    have h1 := HLG.out W4 hT4
    obtain ⟨k0, k1⟩ := hW4.cells
    have HB4 : Hid (Box2 W4 w.heap.size (.slice aL NL cL) (.slice aC NC cC)) := hW4
    have HT4 : Hid (Touch w W4 []) := hT4
    clear hW4 hT4
    obtain ⟨lp, le, lh⟩ := LR
    simp only at HHPL
    go_wp2_with fail
    refine h1.mono ?_
    rintro e w5 ⟨rfl, t5⟩
    simp only
    have HT5 : Hid (Touch w w5 []) := HT4.out.trans t5 (by simp)
    have HB5 : Hid (Box2 w5 w.heap.size (.slice aL NL cL) (.slice aC NC cC)) := HB4.out.touch t5 (by simp)
    clear h1 t5 HB4 HT4 k0 k1
    have h2 := HRL.out w5 HT5.out
    obtain ⟨k0, k1⟩ := HB5.out.cells
    go_wp2_with fail
    refine h2.mono ?_
    rintro e w6 ⟨rfl, t6⟩
    simp only
    have HT6 : Hid (Touch w w6 []) := HT5.out.trans t6 (by simp)
    have HB6 : Hid (Box2 w6 w.heap.size (.slice aL NL cL) (.slice aC NC cC)) := HB5.out.touch t6 (by simp)
    clear h2 t6 HB5 HT5 k0 k1
    have h3 := HHE.out w6 HT6.out
    obtain ⟨k0, k1⟩ := HB6.out.cells
    by_cases hle : le = 0
    · subst hle
      go_wp2_with fail
      refine h3.mono ?_
      rintro e w7 ⟨t7, ⟨hne, _⟩ | ⟨hz, a7, n7, c7, rfl, hv7⟩⟩
      · exact absurd rfl hne
      · have HV7 : Hid (VRow w7 (.slice a7 n7 c7) lh) := hv7
        have HT7 : Hid (Touch w w7 []) := HT6.out.trans t7 (by simp)
        have HB7 : Hid (Box2 w7 w.heap.size (.slice aL NL cL) (.slice aC NC cC)) := HB6.out.touch t7 (by simp)
        clear h3 t7 HB6 HT6 k0 k1 hv7 hz
        have h4 := HRH.out w7 HT7.out
        obtain ⟨k0, k1⟩ := HB7.out.cells
        go_wp2_with fail
        refine h4.mono ?_
        rintro e w8 ⟨t8, ⟨hne, _⟩ | ⟨hz, a8, n8, c8, rfl, hv8⟩⟩
        · exact absurd rfl hne
        · have HV8 : Hid (VRow w8 (.slice a8 n8 c8) lh) := hv8
          have HV78 : Hid (VRow w8 (.slice a7 n7 c7) lh) := SRow.keep HV7.out t8 (by simp)
          have HT8 : Hid (Touch w w8 []) := HT7.out.trans t8 (by simp)
          clear h4 t8 HB7 HT7 k0 k1 hv8 hz HV7
          have hlv := olive_any w8
          go_wp2_with fail
          refine hlv.mono ?_
          rintro e w9 ⟨rfl, t9⟩
          clear hlv
          have HT9 : Hid (Touch w w9 []) := HT8.out.trans t9 (by simp)
          have hsv := sameV_any (.slice a7 n7 c7) (.slice a8 n8 c8) lh w9 (Nat.le_trans (HHPL.out (by trivial)) (by decide)) (SRow.keep HV78.out t9 (by simp)) (SRow.keep HV8.out t9 (by simp))
          clear t9 HV78 HV8 HT8
          go_wp2_with fail
          refine hsv.mono ?_
          rintro e w10 ⟨rfl, t10⟩
          clear hsv
          go_wp2
          go_ret
          exact ⟨rfl, HT9.out.trans t10 (by simp)⟩
    · have hle' : (le == 0) = false := by simpa using hle
      have HLE : Hid (le ≠ 0) := hle
      clear hle
      go_wp2_with fail
      refine h3.mono ?_
      rintro e w7 ⟨t7, ⟨_, rfl⟩ | ⟨hz, _⟩⟩
      · have HT7 : Hid (Touch w w7 []) := HT6.out.trans t7 (by simp)
        have HB7 : Hid (Box2 w7 w.heap.size (.slice aL NL cL) (.slice aC NC cC)) := HB6.out.touch t7 (by simp)
        clear h3 t7 HB6 HT6 k0 k1
        have h4 := HRH.out w7 HT7.out
        obtain ⟨k0, k1⟩ := HB7.out.cells
        simp only
        go_wp2_with fail
        refine h4.mono ?_
        rintro e w8 ⟨t8, ⟨_, rfl⟩ | ⟨hz, _⟩⟩
        · have HT8 : Hid (Touch w w8 []) := HT7.out.trans t8 (by simp)
          clear h4 t8 HB7 HT7 k0 k1
          simp only
          have hlv := olive_any w8
          go_wp2_with fail
          refine hlv.mono ?_
          rintro e w9 ⟨rfl, t9⟩
          clear hlv
          have HT9 : Hid (Touch w w9 []) := HT8.out.trans t9 (by simp)
          have hsv := sameV_any (.slice none 0 0) (.slice none 0 0) [] w9 (by simp) (vrow_nil _) (vrow_nil _)
          clear t9 HT8
          go_wp2_with fail
          refine hsv.mono ?_
          rintro e w10 ⟨rfl, t10⟩
          clear hsv
          go_wp2
          go_ret
          exact ⟨rfl, HT9.out.trans t10 (by simp)⟩
        · exact absurd hz HLE.out
      · exact absurd hz HLE.out)

end Go.Proofs.YtjacclbifeoclaaGreat
