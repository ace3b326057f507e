/-
  OpaqueAborts, THE WALK.
-/
import Derived.Test.YtjacclbifeoclaaOpqAbPl
import Derived.Test.YtjacclbifeoclaaOpqLive
import Derived.Test.YtjacclbifeoclaaOpqFew
import Derived.Test.YtjacclbifeoclaaHistWrites
namespace Go.Proofs.Ytjacclbifeoclaa
set_option linter.unusedVariables false
set_option linter.unusedSimpArgs false
open Go.RowKit Go.Maps
attribute [local go_sem] Oper.semAt_some

/-- A box of two slices. -/
abbrev Box2 (w : World) (b : Nat) (x y : Value) : Prop := w.heap[b]? = some (.cells #[x, y] 41 (0, 0))
theorem Box2.cells {w : World} {b : Nat} {x y : Value} (h : Box2 w b x y) : w.cell? ⟨b, 0, none⟩ = some x ∧ w.cell? ⟨b, 1, none⟩ = some y := by
  refine ⟨?_, ?_⟩ <;> simp [World.cell?, h]
theorem Box2.frozen {w : World} {b : Nat} {x y : Value} (h : Box2 w b x y) (k : Nat) : w.frozen? ⟨b, k, none⟩ = false := by simp [World.frozen?, h]
theorem Box2.touch {w w' : World} {b : Nat} {x y : Value} {S : List Nat} (h : Box2 w b x y) (t : Touch w w' S) (hS : b ∉ S) : Box2 w' b x y := (t.block _ (lt_of_heap h) hS).trans h
theorem Box2.set0 {w : World} {b : Nat} {x y : Value} (h : Box2 w b x y) (v : Value) : Box2 (w.setCell ⟨b, 0, none⟩ v) b v y := by
  have := heap_setCell_same w b 0 _ _ v h
  simpa using this
theorem Box2.set1 {w : World} {b : Nat} {x y : Value} (h : Box2 w b x y) (v : Value) : Box2 (w.setCell ⟨b, 1, none⟩ v) b x v := by
  have := heap_setCell_same w b 1 _ _ v h
  simpa using this

theorem min_cut {n m c : Nat} (h : n ≤ c) : min m n ≤ c := by omega

set_option maxRecDepth 100000 in
set_option maxHeartbeats 4000000 in
theorem oright_any (aL aC : Option Addr) (nL cL nC cC : Nat) (hL : nL ≤ cL) (hC : nC ≤ cC) (w : World) :
    Calls Try.prog 20 #[.agg #[.slice aL nL cL, .slice aC nC cC]] w fun e w' => e = .returned (.agg #[.slice aL (min 12 nL) cL, .slice aC (min 6 nC) cC]) ∧ Touch w w' [] := by
  by_cases h1 : 12 < nL
  · by_cases h2 : 6 < nC
    · skip
      have e1 : min 12 nL = 12 := by omega
      have e2 : min 6 nC = 6 := by omega
      rw [e1, e2]
      have q1 : (12 : Int) < nL := by omega
      have q2 : (6 : Int) < nC := by omega
      have q3 : (12 : Int) ≤ cL := by omega
      have q4 : (6 : Int) ≤ cC := by omega
      clear e1 e2
      go_enter Try.func20, Try.ntmps20
      go_wp2
      refine bodyPost_ret (v := .agg #[.slice aL 12 cL, .slice aC 6 cC]) ?_ rfl ⟨rfl, by repeat (first | exact Touch.refl _ _ | apply Touch.drew | apply Touch.alloc | (refine Touch.setCell ?_ (.inr (by simp)) _))⟩
      simp [results, Try.results20, go_sem]
    · skip
      have e1 : min 12 nL = 12 := by omega
      have e2 : min 6 nC = nC := by omega
      rw [e1, e2]
      have q1 : (12 : Int) < nL := by omega
      have q2 : ¬ (6 : Int) < nC := by omega
      have q3 : (12 : Int) ≤ cL := by omega
      have q4 : (nC : Int) ≤ cC := by omega
      clear e1 e2
      go_enter Try.func20, Try.ntmps20
      go_wp2
      refine bodyPost_ret (v := .agg #[.slice aL 12 cL, .slice aC nC cC]) ?_ rfl ⟨rfl, by repeat (first | exact Touch.refl _ _ | apply Touch.drew | apply Touch.alloc | (refine Touch.setCell ?_ (.inr (by simp)) _))⟩
      simp [results, Try.results20, go_sem]
  · by_cases h2 : 6 < nC
    · skip
      have e1 : min 12 nL = nL := by omega
      have e2 : min 6 nC = 6 := by omega
      rw [e1, e2]
      have q1 : ¬ (12 : Int) < nL := by omega
      have q2 : (6 : Int) < nC := by omega
      have q3 : (nL : Int) ≤ cL := by omega
      have q4 : (6 : Int) ≤ cC := by omega
      clear e1 e2
      go_enter Try.func20, Try.ntmps20
      go_wp2
      refine bodyPost_ret (v := .agg #[.slice aL nL cL, .slice aC 6 cC]) ?_ rfl ⟨rfl, by repeat (first | exact Touch.refl _ _ | apply Touch.drew | apply Touch.alloc | (refine Touch.setCell ?_ (.inr (by simp)) _))⟩
      simp [results, Try.results20, go_sem]
    · skip
      have e1 : min 12 nL = nL := by omega
      have e2 : min 6 nC = nC := by omega
      rw [e1, e2]
      have q1 : ¬ (12 : Int) < nL := by omega
      have q2 : ¬ (6 : Int) < nC := by omega
      have q3 : (nL : Int) ≤ cL := by omega
      have q4 : (nC : Int) ≤ cC := by omega
      clear e1 e2
      go_enter Try.func20, Try.ntmps20
      go_wp2
      refine bodyPost_ret (v := .agg #[.slice aL nL cL, .slice aC nC cC]) ?_ rfl ⟨rfl, by repeat (first | exact Touch.refl _ _ | apply Touch.drew | apply Touch.alloc | (refine Touch.setCell ?_ (.inr (by simp)) _))⟩
      simp [results, Try.results20, go_sem]

theorem takeN_len {α : Type} (l : List α) (m : Nat) : (l.take m).length = min m l.length := by simp

set_option maxRecDepth 100000 in
set_option maxHeartbeats 8000000 in
theorem oaborts_any (ao bo aL aC : Option Addr) (capA capB cL cC : Nat) (l0 : List EvD) (h0 L0 C0 : List Int) (w : World) (hr : EvRow w (.slice ao l0.length capA) l0) (hcA : l0.length ≤ capA ∧ capA ≤ maxLen) (hwf : ∀ e ∈ l0, e.Wf) (hh : VRow w (.slice bo h0.length capB) h0) (hcB : h0.length ≤ capB ∧ capB ≤ maxLen)
    (hL : IRow w (.slice aL L0.length cL) L0) (hcL : L0.length ≤ cL) (hLw : ∀ x ∈ L0, W64 x) (hC : IRow w (.slice aC C0.length cC) C0) (hcC : C0.length ≤ cC) :
    Calls Try.prog 6 #[.slice ao l0.length capA, .slice bo h0.length capB, .agg #[.slice aL L0.length cL, .slice aC C0.length cC]] w (TrueN w) := by
  have hfw := ofew_any ao capA l0
  have hhp := oheaped_any bo capB h0
  have hrg := oright_any aL aC L0.length cL C0.length cC hcL hcC
  obtain ⟨l, hl1⟩ : ∃ l, l = l0.take 50 := ⟨_, rfl⟩
  obtain ⟨hp, hhp1⟩ : ∃ hp, hp = h0.take 13 := ⟨_, rfl⟩
  obtain ⟨L, hL1⟩ : ∃ L, L = L0.take 12 := ⟨_, rfl⟩
  obtain ⟨C, hC1⟩ : ∃ C, C = C0.take 6 := ⟨_, rfl⟩
  rw [← hl1] at hfw
  rw [← hhp1] at hhp
  rw [← takeN_len, ← takeN_len, ← hL1, ← hC1] at hrg
  have HFW : Hid (∀ W, Calls Try.prog 8 #[.slice ao l0.length capA] W fun e w' => e = .returned (.slice ao l.length capA) ∧ W = w') := fun W => hfw W hcA.1
  have HHP : Hid (∀ W, Calls Try.prog 9 #[.slice bo h0.length capB] W fun e w' => e = .returned (.slice bo hp.length capB) ∧ W = w') := fun W => hhp W hcB.1
  have HRG : Hid (∀ W, Calls Try.prog 20 #[.agg #[.slice aL L0.length cL, .slice aC C0.length cC]] W fun e w' => e = .returned (.agg #[.slice aL L.length cL, .slice aC C.length cC]) ∧ Touch W w' []) := hrg
  have hrl : EvRow w (.slice ao l.length capA) l := by rw [hl1]; exact SRow.takeN hr 50
  have hvh : VRow w (.slice bo hp.length capB) hp := by rw [hhp1]; exact SRow.takeN hh 13
  have hil : IRow w (.slice aL L.length cL) L := by rw [hL1]; exact SRow.takeN hL 12
  have hic : IRow w (.slice aC C.length cC) C := by rw [hC1]; exact SRow.takeN hC 6
  have hwl : ∀ e ∈ l, e.Wf := fun e he => hwf e (by rw [hl1] at he; exact List.take_subset _ _ he)
  have hll : l.length ≤ 50 := by rw [hl1]; simp; omega
  have hhl : hp.length ≤ 13 := by rw [hhp1]; simp; omega
  have hLl : L.length ≤ 12 := by rw [hL1]; simp; omega
  have hCl : C.length ≤ 6 := by rw [hC1]; simp; omega
  have hLc : L.length ≤ cL := by rw [hL1]; simp; omega
  have hCc : C.length ≤ cC := by rw [hC1]; simp; omega
  have HHE : Hid (∀ W, Touch w W [] → Calls Try.prog 21 #[.slice ao l.length capA, .slice bo hp.length capB, .slice aL L.length cL, .slice aC C.length cC] W (HeapE W (legalP l hp L C))) := fun W t =>
    heap_any (SRow.keep hrl t (by simp)) (by omega) hwl (SRow.keep hvh t (by simp)) (by omega) (SRow.keep hil t (by simp)) (by omega) (fun a n c e => by simp at e; omega) (SRow.keep hic t (by simp)) (by omega) (fun a n c e => by simp at e; omega)
  have HST : Hid (∀ W, Touch w W [] → ∀ a, W64 a → Calls Try.prog 22 #[.slice ao l.length capA, .int .i64 a] W fun x w' => x = .returned (.int .u8 (stateS l a)) ∧ Touch W w' []) := fun W t a ha => stateOf_any (SRow.keep hrl t (by simp)) (by omega) hwl a ha
  have HHE2 : Hid (∀ W vk vo, Touch w W [] → EvRow W vk (keptP (fun a => stateS l a != 4) l) → IRow W vo (L.filter fun a => stateS l a != 4) → (∀ a n c, vo = .slice a n c → n ≤ c) → Calls Try.prog 21 #[vk, .slice bo hp.length capB, vo, .slice aC C.length cC] W (HeapE W (legalP (keptP (fun a => stateS l a != 4) l) hp (L.filter fun a => stateS l a != 4) C))) := fun W vk vo t hk ho hcap =>
    heap_any hk (Nat.le_trans (List.length_filter_le _ _) (by omega)) (fun e he => hwl e (List.mem_filter.1 he).1) (SRow.keep hvh t (by simp)) (by omega) ho (Nat.le_trans (List.length_filter_le _ _) (by omega)) hcap (SRow.keep hic t (by simp)) (by omega) (fun a n c e => by simp at e; omega)
  have HLR : Hid ((legalP l hp L C).2.1 = 0 → (legalP (keptP (fun a => stateS l a != 4) l) hp (L.filter fun a => stateS l a != 4) C).2 = (legalP l hp L C).2) := fun h => aborts_legal (by omega) h
  have HEV : Hid (EvRow w (.slice ao l.length capA) l) := hrl
  have HIL : Hid (IRow w (.slice aL L.length cL) L) := hil
  have HWL : Hid (∀ e ∈ l, e.Wf) := hwl
  have HLW : Hid (∀ x ∈ L, W64 x) := fun x hx => hLw x (by rw [hL1] at hx; exact List.take_subset _ _ hx)
  have HHPL : Hid ((legalP l hp L C).2.1 = 0 → (legalP l hp L C).2.2.length ≤ 12) := fun h => legal_len (by omega) h
  obtain ⟨kp, hkp⟩ : ∃ kp : Int → Bool, kp = fun a => stateS l a != 4 := ⟨_, rfl⟩
  rw [← hkp] at HHE2 HLR
  have HKP : Hid (∀ a, kp a = (stateS l a != 4)) := fun a => by rw [hkp]
  generalize hLR : legalP l hp L C = LR at *
  generalize hLR2 : legalP (keptP kp l) hp (L.filter kp) C = LR2 at *
  clear hrl hvh hil hic hwl hLR hLR2 hkp hLc hCc
  generalize l0.length = NL0 at *
  generalize h0.length = NH0 at *
  generalize L0.length = NLL at *
  generalize C0.length = NCC at *
  generalize hNl : l.length = Nl at *
  generalize hNh : hp.length = Nh at *
  generalize hNL : L.length = NL at *
  generalize hNC : C.length = NC at *
  clear hfw hhp hrg
  have hB1 : Box2 (w.alloc (.cells #[.slice aL NLL cL, .slice aC NCC cC] 41)) w.heap.size (.slice aL NLL cL) (.slice aC NCC cC) := heap_alloc_new _ _
  have T1 : Touch w (w.alloc (.cells #[.slice aL NLL cL, .slice aC NCC cC] 41)) [] := (Touch.refl w []).alloc _
  have HT1 : Hid _ := T1
  have HB1 : Hid (Box2 (w.alloc (.cells #[.slice aL NLL cL, .slice aC NCC cC] 41)) w.heap.size (.slice aL NLL cL) (.slice aC NCC cC)) := hB1
  clear T1 hB1 hr hwf hh hL hC hl1 hhp1 hL1 hC1 hLw hcA hcB hcL hcC
  have HNl : Hid (l.length = Nl) := hNl
  have HNL : Hid (L.length = NL) := hNL
  clear hNl hNh hNL hNC
  go_enter Try.func6, Try.ntmps6
  go_wp2_with fail
  refine wp_name fun W hW => ?_
  have hB : Box2 W w.heap.size (.slice aL NLL cL) (.slice aC NCC cC) := by rw [hW]; exact HB1.out
  have HTW : Hid (Touch w W []) := by rw [hW]; exact HT1.out
  obtain ⟨c0, c1⟩ := hB.cells
  have z0 := hB.frozen 0
  have z1 := hB.frozen 1
  clear hW HB1 HT1
  have hfw := HFW.out
  have hhp := HHP.out
  have hrg := HRG.out
  have hd : Touch W W.drew [] := (Touch.refl W []).drew
  (first | go_region_with ((first | (go_at_call 8; refine (hfw _).mono ?_; rintro e w2 ⟨rfl, rfl⟩) | (go_at_call 9; refine (hhp _).mono ?_; rintro e w2 ⟨rfl, rfl⟩) | (go_at_call 20; refine (hrg _).mono ?_; rintro e w3 ⟨rfl, t3⟩; have b3 := hB.touch (hd.trans t3 (by simp)) (by simp); have HB3 : Hid (Box2 w3 w.heap.size (.slice aL NLL cL) (.slice aC NCC cC)) := b3; obtain ⟨k0, k1⟩ := b3.cells; have y0 := b3.frozen 0; have y1 := b3.frozen 1; clear b3))) | fail)
  all_goals (
    have hW4 : Box2 ((w3.setCell ⟨w.heap.size, 0, none⟩ (.slice aL NL cL)).setCell ⟨w.heap.size, 1, none⟩ (.slice aC NC cC)) w.heap.size (.slice aL NL cL) (.slice aC NC cC) := (HB3.out.set0 _).set1 _
    have hT4 : Touch w ((w3.setCell ⟨w.heap.size, 0, none⟩ (.slice aL NL cL)).setCell ⟨w.heap.size, 1, none⟩ (.slice aC NC cC)) [] := (((HTW.out.trans hd (by simp)).trans t3 (by simp)).setCell (.inr (Nat.le_refl _)) _).setCell (.inr (Nat.le_refl _)) _
    generalize (w3.setCell ⟨w.heap.size, 0, none⟩ (.slice aL NL cL)).setCell ⟨w.heap.size, 1, none⟩ (.slice aC NC cC) = W4 at *
    clear k0 k1 y0 y1 HB3 t3 hd c0 c1 z0 z1 hB HTW HFW HHP HRG hfw hhp hrg
    have hhe := HHE.out W4 hT4
    obtain ⟨k0, k1⟩ := hW4.cells
    have HB4 : Hid (Box2 W4 w.heap.size (.slice aL NL cL) (.slice aC NC cC)) := hW4
    have HT4 : Hid (Touch w W4 []) := hT4
    clear hW4 hT4
    go_wp2_with fail
    refine hhe.mono ?_
    rintro e w5 ⟨t5, ⟨hne, rfl⟩ | ⟨hz, a5, n5, c5, rfl, hv5⟩⟩
    · obtain ⟨lp, le, lh⟩ := LR
      simp only at hne ⊢
      have hne' : (le == 0) = false := by simpa using hne
      have hlv := olive_any w5
      have HT5 : Hid (Touch w w5 []) := HT4.out.trans t5 (by simp)
      clear hhe t5
      go_wp2_with fail
      refine hlv.mono ?_
      rintro e w6 ⟨rfl, t6⟩
      clear hlv
      go_wp2
      go_ret
      exact ⟨rfl, HT5.out.trans t6 (by simp)⟩
    · have HV5 : Hid (VRow w5 (.slice a5 n5 c5) LR.2.2) := hv5
      have HZ : Hid (LR.2.1 = 0) := hz
      have HT5 : Hid (Touch w w5 []) := HT4.out.trans t5 (by simp)
      have HB5 : Hid (Box2 w5 w.heap.size (.slice aL NL cL) (.slice aC NC cC)) := HB4.out.touch t5 (by simp)
      clear hhe t5 hv5 hz HB4 HT4 k0 k1
      obtain ⟨i0, hi, hz0, hz1, hz2⟩ := info_partsO Try.info_ev
      have HI0 : Hid _ := And.intro hi (And.intro hz0 (And.intro hz1 hz2))
      obtain ⟨i1, hj, hy0, hy1, hy2⟩ := info_partsO Try.info_int
      have HI1 : Hid _ := And.intro hj (And.intro hy0 (And.intro hy1 hy2))
      clear hi hz0 hz1 hz2 hj hy0 hy1 hy2
      go_wp2_with fail
      go_loopw [9, 11] (fun s i wr => ∃ k : Nat, i = .int .i64 k ∧ k ≤ Nl ∧ evOwn wr w5.heap.size s (keptP kp (l.take k)) ∧ Touch w5 wr []) (fun _ i _ => Nl - (intOf i).toNat)
      case atStart => exact ⟨0, rfl, Nat.zero_le _, World.ownsRow_nil _ _ _ _, Touch.refl _ _⟩
      case round =>
        obtain ⟨k, rfl, hk, hown, t⟩ := hrel
        have T := HT5.out.trans t (by simp)
        have HTT : Hid (Touch w wr []) := T
        have HTR : Hid (Touch w5 wr []) := t
        by_cases hlt : k < Nl
        · have q1 : (k : Int) < Nl := by omega
          have q0 : (0 : Int) ≤ k := by omega
          have hkl : k < l.length := by rw [HNl.out]; exact hlt
          obtain ⟨g, off, hgo, hg, d0, d1, d2, d3⟩ := EvRow.one (by have := SRow.keep HEV.out T (by simp); rw [← HNl.out] at this; exact this) k hkl
          subst hgo
          have hwe := HWL.out _ (List.getElem_mem hkl)
          have hst := HST.out wr T l[k].a hwe.a
          have hkp := HKP.out l[k].a
          have hsn : keptP kp (l.take (k + 1)) = keptP kp (l.take k) ++ (if kp l[k].a then [l[k]] else []) := by
            unfold keptP
            rw [take_snoc hkl, List.filter_append]
            by_cases hq : kp l[k].a = true <;> simp [hq]
          have hln : (keptP kp (l.take k)).length ≤ 50 := Nat.le_trans (List.length_filter_le _ _) (by simp; omega)
          generalize l[k] = e at *
          obtain ⟨ek, ea, et, ev⟩ := e
          simp only at d0 d1 d2 d3 hst hkp hsn
          generalize stateS l ea = st at *
          have HOWN : Hid (evOwn wr w5.heap.size u9 (keptP kp (l.take k))) := hown
          have HSN : Hid _ := hsn
          have HLN : Hid _ := hln
          clear hown t T hwe hsn hln hkl
          by_cases h4 : st = 4
          · subst h4
            have hkf : kp ea = false := by rw [hkp]; rfl
            have HK1 : Hid (keptP kp (l.take (k + 1)) = keptP kp (l.take k)) := by show _ = _; have := HSN.out; rw [hkf] at this; simpa using this
            clear hkp hkf HSN
            go_wp2_with fail
            refine hst.mono ?_
            rintro e w6 ⟨rfl, t6⟩
            clear hst
            go_wp2
            go_roundw
            case rel => exact ⟨k + 1, by go_num, by omega, by rw [HK1.out]; exact ownsRow_touch HOWN.out t6 (by simp), HTR.out.trans t6 (by simp)⟩
            case measure => simp [intOf]; omega
          · have h4' : (st == 4) = false := by simpa using h4
            have hkt : kp ea = true := by rw [hkp]; simpa using h4
            have HK1 : Hid (keptP kp (l.take (k + 1)) = keptP kp (l.take k) ++ [⟨ek, ea, et, ev⟩]) := by show _ = _; have := HSN.out; rw [hkt] at this; simpa using this
            clear hkp hkt HSN h4
            go_wp2_with fail
            refine hst.mono ?_
            rintro e w6 ⟨rfl, t6⟩
            clear hst
            obtain ⟨hi, hz0, hz1, hz2⟩ := HI0.out
            have T6 := HTT.out.trans t6 (by simp)
            have hg6 : g < wr.heap.size := hg
            have f0 := (t6.cell (p := ⟨g, off + k * 4, none⟩) hg6 (by simp)).trans d0
            have f1 := (t6.cell (p := ⟨g, off + k * 4 + 1, none⟩) hg6 (by simp)).trans d1
            have f2 := (t6.cell (p := ⟨g, off + k * 4 + 2, none⟩) hg6 (by simp)).trans d2
            have f3 := (t6.cell (p := ⟨g, off + k * 4 + 3, none⟩) hg6 (by simp)).trans d3
            have TB : Touch w6 (w6.alloc (.cells #[.int .u8 ek, .int .i64 ea, .int .i64 et, .int .u64 ev] 51)) [] := (Touch.refl w6 []).alloc _
            have hnew : EvRow (w6.alloc (.cells #[.int .u8 ek, .int .i64 ea, .int .i64 et, .int .u64 ev] 51)) (.slice (some ⟨w6.heap.size, 0, none⟩) [(⟨ek, ea, et, ev⟩ : EvD)].length 1) [⟨ek, ea, et, ev⟩] := srow_new (cells := EvD.cells) (fun _ => rfl) w6 [⟨ek, ea, et, ev⟩] 51 1
            have o6 := ownsRow_touch HOWN.out t6 (by simp)
            have hs5 := HTR.out.size
            have hs6 := t6.size
            obtain ⟨v', w7, hrun, o7, g7, b7⟩ := run_app (P := Try.prog) (cells := EvD.cells) 22 22 51 i0 _ 4 32 Try.underlying22 hi hz0 hz1 hz2 rfl (by decide) (fun _ => rfl) (by intro x u hu; simp [EvD.cells] at hu; rcases hu with rfl | rfl | rfl | rfl <;> rfl) (ownsRow_touch o6 TB (by simp)) hnew (by have := HLN.out; simp; omega) (by decide) (by simp; omega)
            have HT7 : Hid (Touch w5 w7 []) := ((HTR.out.trans t6 (by simp)).trans TB (by simp)).grown g7 (fun x hx => .inr (o6.lt x hx).1)
            have HO7 : Hid (evOwn w7 w5.heap.size v' (keptP kp (l.take (k + 1)))) := by
              show World.ownsRow _ _ _ _ _ _ _
              rw [HK1.out]
              simpa using o7
            obtain ⟨a7, c7, hf7⟩ := owns_slice HO7.out
            obtain ⟨a9, c9, hf9⟩ := owns_slice HOWN.out
            subst hf7
            rw [hf9] at hrun ⊢
            simp only [List.length_singleton] at hrun
            clear hi hz0 hz1 hz2 T6 TB hnew o6 o7 g7 b7 t6 hf9 HOWN HK1 d0 d1 d2 d3
            generalize (keptP kp (l.take k)).length = M0 at *
            generalize hM1 : (keptP kp (l.take (k + 1))).length = M1 at *
            clear hM1
            go_wp2_with (at_builtin; refine Lib.wpList_append_run _ rfl _ _ _ _ rfl _ _ rfl rfl _ _ hrun ?_)
            go_roundw
            case rel => exact ⟨k + 1, by go_num, by omega, HO7.out, HT7.out⟩
            case measure => simp [intOf]; omega
        · obtain rfl : k = Nl := by omega
          have HKO : Hid (evOwn wr w5.heap.size u9 (keptP kp l)) := by
            rw [← HNl.out, List.take_length] at hown
            exact hown
          have HBR : Hid (Box2 wr w.heap.size (.slice aL NL cL) (.slice aC NC cC)) := HB5.out.touch t (by simp)
          have HVR : Hid (VRow wr (.slice a5 n5 c5) LR.2.2) := SRow.keep HV5.out t (by simp)
          obtain ⟨a9, c9, hf9⟩ := owns_slice HKO.out
          obtain ⟨W6, hW6⟩ : ∃ W6, W6 = wr := ⟨_, rfl⟩
          rw [← hW6] at HKO HBR HVR HTT ⊢
          clear hown t T hW6 HTR HB5 HV5 HT5
          subst hf9
          generalize hNK : (keptP kp l).length = NK at *
          have HNK : Hid ((keptP kp l).length = NK) := hNK
          clear hNK
          have hlt' : ¬ (k : Int) < k := by omega
          go_wp2_with fail
          go_loopw [10, 12] (fun s i wr => ∃ j : Nat, i = .int .i64 j ∧ j ≤ NL ∧ intOwn wr W6.heap.size s ((L.take j).filter kp) ∧ Touch W6 wr []) (fun _ i _ => NL - (intOf i).toNat)
          case atStart => exact ⟨0, rfl, Nat.zero_le _, World.ownsRow_nil _ _ _ _, Touch.refl _ _⟩
          case round =>
            obtain ⟨j, rfl, hj, hown, t⟩ := hrel
            have T := HTT.out.trans t (by simp)
            have HTW : Hid (Touch w wr []) := T
            have HTR : Hid (Touch W6 wr []) := t
            have hbx := HBR.out.touch t (by simp)
            obtain ⟨k0, k1⟩ := hbx.cells
            have HBX : Hid (Box2 wr w.heap.size (.slice aL NL cL) (.slice aC NC cC)) := hbx
            clear hbx
            by_cases hlt : j < NL
            · have q1 : (j : Int) < NL := by omega
              have q0 : (0 : Int) ≤ j := by omega
              have hjl : j < L.length := by rw [HNL.out]; exact hlt
              obtain ⟨g, off, hgo, hg, d0⟩ := IRow.one (by have := SRow.keep HIL.out T (by simp); rw [← HNL.out] at this; exact this) j hjl
              subst hgo
              have hst := HST.out wr T L[j] (HLW.out _ (List.getElem_mem hjl))
              have hkp := HKP.out L[j]
              have hsn : (L.take (j + 1)).filter kp = (L.take j).filter kp ++ (if kp L[j] then [L[j]] else []) := by
                rw [take_snoc hjl, List.filter_append]
                by_cases hq : kp L[j] = true <;> simp [hq]
              have hln : ((L.take j).filter kp).length ≤ 12 := Nat.le_trans (List.length_filter_le _ _) (by simp; omega)
              generalize L[j] = x at *
              generalize stateS l x = st at *
              have HOWN : Hid (intOwn wr W6.heap.size u10 ((L.take j).filter kp)) := hown
              have HSN : Hid _ := hsn
              have HLN : Hid _ := hln
              clear hown t T hsn hln hjl
              by_cases h4 : st = 4
              · subst h4
                have hkf : kp x = false := by rw [hkp]; rfl
                have HK1 : Hid ((L.take (j + 1)).filter kp = (L.take j).filter kp) := by show _ = _; have := HSN.out; rw [hkf] at this; simpa using this
                clear hkp hkf HSN
                go_wp2_with fail
                refine hst.mono ?_
                rintro e w7 ⟨rfl, t7⟩
                clear hst
                go_wp2
                go_roundw
                case rel => exact ⟨j + 1, by go_num, by omega, by rw [HK1.out]; exact ownsRow_touch HOWN.out t7 (by simp), HTR.out.trans t7 (by simp)⟩
                case measure => simp [intOf]; omega
              · have h4' : (st == 4) = false := by simpa using h4
                have hkt : kp x = true := by rw [hkp]; simpa using h4
                have HK1 : Hid ((L.take (j + 1)).filter kp = (L.take j).filter kp ++ [x]) := by show _ = _; have := HSN.out; rw [hkt] at this; simpa using this
                clear hkp hkt HSN h4
                go_wp2_with fail
                refine hst.mono ?_
                rintro e w7 ⟨rfl, t7⟩
                clear hst
                obtain ⟨hi, hz0, hz1, hz2⟩ := HI1.out
                have f0 := (t7.cell (p := ⟨g, off + j, none⟩) hg (by simp)).trans d0
                obtain ⟨k0', k1'⟩ := (HBX.out.touch t7 (by simp)).cells
                have TB : Touch w7 (w7.alloc (.cells #[.int .i64 x] 3)) [] := (Touch.refl w7 []).alloc _
                have hnew : IRow (w7.alloc (.cells #[.int .i64 x] 3)) (.slice (some ⟨w7.heap.size, 0, none⟩) [x].length 1) [x] := srow_new (cells := fun x : Int => [Value.int .i64 x]) (fun _ => rfl) w7 [x] 3 1
                have o7 := ownsRow_touch HOWN.out t7 (by simp)
                have hs5 := HTR.out.size
                have hs6 := t7.size
                obtain ⟨v', w8, hrun, o8, g8, b8⟩ := run_app (P := Try.prog) (cells := fun x : Int => [Value.int .i64 x]) 24 24 3 i1 _ 1 8 Try.underlying24 hi hz0 hz1 hz2 rfl (by decide) (fun _ => rfl) (by simp [Value.oneCell']) (ownsRow_touch o7 TB (by simp)) hnew (by have := HLN.out; simp; omega) (by decide) (by simp; omega)
                have HT8 : Hid (Touch W6 w8 []) := ((HTR.out.trans t7 (by simp)).trans TB (by simp)).grown g8 (fun x hx => .inr (o7.lt x hx).1)
                have HO8 : Hid (intOwn w8 W6.heap.size v' ((L.take (j + 1)).filter kp)) := by
                  show World.ownsRow _ _ _ _ _ _ _
                  rw [HK1.out]
                  simpa using o8
                obtain ⟨a8, c8, hf8⟩ := owns_slice HO8.out
                obtain ⟨a10, c10, hf10⟩ := owns_slice HOWN.out
                subst hf8
                rw [hf10] at hrun ⊢
                simp only [List.length_singleton] at hrun
                clear hi hz0 hz1 hz2 TB hnew o7 o8 g8 b8 t7 hf10 HOWN HK1 d0 k0 k1
                generalize ((L.take j).filter kp).length = M0 at *
                generalize hM1 : ((L.take (j + 1)).filter kp).length = M1 at *
                clear hM1
                go_wp2_with (at_builtin; refine Lib.wpList_append_run _ rfl _ _ _ _ rfl _ _ rfl rfl _ _ hrun ?_)
                go_roundw
                case rel => exact ⟨j + 1, by go_num, by omega, HO8.out, HT8.out⟩
                case measure => simp [intOf]; omega
            · obtain rfl : j = NL := by omega
              have hOO : intOwn wr W6.heap.size u10 (L.filter kp) := by
                rw [← HNL.out, List.take_length] at hown
                exact hown
              have hKK : EvRow wr (.slice a9 NK c9) (keptP kp l) := by
                have := ownsRow_touch HKO.out t (by simp)
                exact srow_of (cells := EvD.cells) (n := 4) (fun _ => rfl) this
              have hhe := HHE2.out wr (.slice a9 NK c9) u10 T hKK (irow_of hOO) (own_cap hOO)
              have hz2 := HLR.out HZ.out
              have HV6 : Hid (VRow wr (.slice a5 n5 c5) LR.2.2) := SRow.keep HVR.out t (by simp)
              have HHL : Hid (LR.2.2.length ≤ 12) := HHPL.out HZ.out
              have hZ2 : LR2.2.1 = 0 := by rw [hz2]; exact HZ.out
              have hV2 : LR2.2.2 = LR.2.2 := by rw [hz2]
              obtain ⟨a10, c10, hf10⟩ := owns_slice hOO
              subst hf10
              clear hown t T hOO hKK hz2
              generalize (L.filter kp).length = NF at *
              have hjj : ¬ (j : Int) < j := by omega
              go_wp2_with fail
              refine hhe.mono ?_
              rintro e w7 ⟨t7, ⟨hne, _⟩ | ⟨_, a7, n7, c7, rfl, hv7⟩⟩
              · exact absurd hZ2 hne
              · rw [hV2] at hv7
                have HV7 : Hid (VRow w7 (.slice a7 n7 c7) LR.2.2) := hv7
                have HV57 : Hid (VRow w7 (.slice a5 n5 c5) LR.2.2) := SRow.keep HV6.out t7 (by simp)
                have hlv := olive_any w7
                have HT7 : Hid (Touch w w7 []) := HTW.out.trans t7 (by simp)
                clear hhe hv7 t7 hZ2 hV2 k0 k1
                go_wp2_with fail
                refine hlv.mono ?_
                rintro e w8 ⟨rfl, t8⟩
                clear hlv
                have hsv := sameV_any (.slice a5 n5 c5) (.slice a7 n7 c7) LR.2.2 w8 (by have := HHL.out; omega) (SRow.keep HV57.out t8 (by simp)) (SRow.keep HV7.out t8 (by simp))
                have HT8 : Hid (Touch w w8 []) := HT7.out.trans t8 (by simp)
                clear t8
                go_wp2_with fail
                refine hsv.mono ?_
                rintro e w9 ⟨rfl, t9⟩
                clear hsv
                go_wp2
                go_ret
                exact ⟨rfl, HT8.out.trans t9 (by simp)⟩)

end Go.Proofs.Ytjacclbifeoclaa
