/-
  package trace, the document's: CountsOf BY ITS CONTRACT.
-/
import Derived.Test.YtmiaibpdeofokaaGreatDoorTrCount
import Derived.Test.YtmiaibpdeofokaaGreatDoorHistRefAtt
namespace Go.Proofs.YtmiaibpdeofokaaGreatDoor
set_option linter.unusedVariables false
set_option linter.unusedSimpArgs false
open Go.RowKit Go.Maps
attribute [local go_sem] Oper.semAt_some

set_option maxRecDepth 100000 in
set_option maxHeartbeats 2000000 in
theorem rcounts_any {w : World} {ao : Option Addr} {cap : Nat} {l : List EvD} (hr : EvRow w (.slice ao l.length cap) l) (hl : l.length ≤ 1000) :
    Calls Tryz.prog 18 #[.slice ao l.length cap] w fun e w' => e = .returned (.agg (cntV l)) ∧ Touch w w' [] := by
  have HAT : Hid (∀ W, Touch w W [] → HidC Tryz.prog 37 #[.slice ao l.length cap] W fun x w' => ∃ ao' cap', x = .returned (.slice ao' (attS l).length cap') ∧ Touch W w' []) := fun W t => ⟨(rattempts_any (SRow.keep hr t (by simp)) hl).mono (by rintro x w' ⟨v, rfl, h1, h2⟩; obtain ⟨a, c, rfl⟩ := owns_slice h1; exact ⟨a, c, rfl, h2⟩)⟩
  have HIN : Hid (∀ W s, Touch w W [] → HidC Tryz.prog 42 #[.slice ao l.length cap, .int .u8 s] W fun x w' => ∃ ao' cap', x = .returned (.slice ao' (stN l s) cap') ∧ Touch W w' []) := fun W s t => ⟨(rin_any (SRow.keep hr t (by simp)) hl s).mono (by rintro x w' ⟨v, rfl, h1, h2⟩; obtain ⟨a, c, rfl⟩ := owns_slice h1; exact ⟨a, c, rfl, h2⟩)⟩
  have HR : Hid (EvRow w (.slice ao l.length cap) l) := hr
  have b1 := attS_le l
  have b2 := stN_le l 3
  have b3 := stN_le l 4
  obtain ⟨V, hV⟩ : ∃ V, V = cntV l := ⟨_, rfl⟩
  have HV : Hid (V = cntA (attS l).length (stN l 3) (stN l 4) ((attS l).length - stN l 3 - stN l 4) (kdN 2 l) (kdN 3 l)) := hV
  rw [← hV]
  obtain ⟨N, hN⟩ : ∃ N, N = l.length := ⟨_, rfl⟩
  have HN : Hid (N = l.length) := hN
  rw [← hN] at hl b1 b2 b3 HAT HIN ⊢
  clear hN hr hV
  generalize (attS l).length = A at *
  have e3 : stN l 3 = stN l 3 := rfl
  obtain ⟨C, hC⟩ : ∃ C, C = stN l 3 := ⟨_, rfl⟩
  obtain ⟨B, hB⟩ : ∃ B, B = stN l 4 := ⟨_, rfl⟩
  have HI3 : Hid (∀ W, Touch w W [] → HidC Tryz.prog 42 #[.slice ao N cap, .int .u8 3] W fun x w' => ∃ ao' cap', x = .returned (.slice ao' C cap') ∧ Touch W w' []) := fun W t => by rw [hC]; exact HIN.out W 3 t
  have HI4 : Hid (∀ W, Touch w W [] → HidC Tryz.prog 42 #[.slice ao N cap, .int .u8 4] W fun x w' => ∃ ao' cap', x = .returned (.slice ao' B cap') ∧ Touch W w' []) := fun W t => by rw [hB]; exact HIN.out W 4 t
  rw [← hC] at b2 HV
  rw [← hB] at b3 HV
  clear e3 hC hB HIN
  have T0 : Hid (Touch w (w.alloc (.cells (cntA 0 0 0 0 0 0) 38)) []) := (Touch.refl w []).alloc _
  have Z0 : Hid (CntB (w.alloc (.cells (cntA 0 0 0 0 0 0) 38)) w.heap.size 0 0 0 0 0 0) := ⟨heap_alloc_new w _⟩
  go_enter Tryz.func18, Tryz.ntmps18
  go_wp2_with fail
  refine (HAT.out _ T0.out).out.mono ?_
  rintro e w1 ⟨a1, c1, rfl, t1⟩
  have T1 : Hid (Touch w w1 []) := T0.out.trans t1 (by simp)
  have Z1 : Hid _ := Z0.out.touch t1 (by simp)
  clear t1 T0 Z0 HAT
  go_wp2_with fail
  refine (HI3.out _ T1.out).out.mono ?_
  rintro e w2 ⟨a2, c2, rfl, t2⟩
  have T2 : Hid (Touch w w2 []) := T1.out.trans t2 (by simp)
  have Z2 : Hid _ := Z1.out.touch t2 (by simp)
  clear t2 T1 Z1 HI3
  go_wp2_with fail
  refine (HI4.out _ T2.out).out.mono ?_
  rintro e w3 ⟨a3, c3, rfl, t3⟩
  have T3 : Hid (Touch w w3 []) := T2.out.trans t3 (by simp)
  have Z3 : Hid _ := Z2.out.touch t3 (by simp)
  clear t3 T2 Z2 HI4
  have hO : ∃ O : Int, O = (A : Int) - C - B := ⟨_, rfl⟩
  obtain ⟨O, hO⟩ := hO
  have hw1 : IntKind.i64.wrap ((A : Int) - C) = (A : Int) - C := by rw [IntKind.wrap_i64]; omega
  have hw2 : IntKind.i64.wrap ((A : Int) - C - B) = (A : Int) - C - B := by rw [IntKind.wrap_i64]; omega
  rw [← hO] at HV hw2
  have HOO : Hid _ := hO
  have hO2 : (A : Int) - C - B = O := hO.symm
  clear hO
  have q3 : Hid (w.heap.size < w3.heap.size) := lt_of_heap Z3.out.st
  have C3 : Hid (CntB (w3.alloc (.cells (cntA A C B O 0 0) 38)) w3.heap.size A C B O 0 0) := ⟨heap_alloc_new w3 _⟩
  have Z4 : Hid (CntB (w3.alloc (.cells (cntA A C B O 0 0) 38)) w.heap.size 0 0 0 0 0 0) := Z3.out.touch ((Touch.refl w3 []).alloc _) (by simp)
  have T4 : Hid (Touch w (w3.alloc (.cells (cntA A C B O 0 0) 38)) []) := T3.out.alloc _
  clear Z3 T3
  go_wp2_with fail
  have HQ : Hid (w3.heap.size ≠ w.heap.size ∧ w.heap.size ≤ w3.heap.size) := ⟨by have := q3.out; omega, by have := q3.out; omega⟩
  generalize (w3.alloc (.cells #[.int .i64 (A : Int), .int .i64 (C : Int), .int .i64 (B : Int), .int .i64 O, .int .i64 0, .int .i64 0] 38)) = Q at *
  generalize w3.heap.size = q at *
  clear hw1 hw2 hO2 HOO
  go_loopw [4] (fun i wr => ∃ k : Nat, i = .int .i64 k ∧ k ≤ N ∧ CntB wr q A C B O (kdN 2 (l.take k)) (kdN 3 (l.take k)) ∧ CntB wr w.heap.size 0 0 0 0 0 0 ∧ Touch w wr []) (fun i _ => N - (intOf i).toNat)
  case atStart => exact ⟨0, rfl, Nat.zero_le _, C3.out, Z4.out, T4.out⟩
  case round =>
    obtain ⟨k, rfl, hk, hcb, hzb, hT⟩ := hrel
    have HT : Hid _ := hT
    have HZ : Hid _ := hzb
    by_cases hlt : k < N
    ·
      have h1 : (k : Int) < N := by omega
      have h0 : (0 : Int) ≤ k := by omega
      have hkl : k < l.length := by rw [← HN.out]; exact hlt
      obtain ⟨g, off, rfl, hg, m0, m1, m2, m3⟩ := HR.out.one k hkl
      have d0 := (hT.cell (p := ⟨g, off + k * 4, none⟩) hg (by simp)).trans m0
      have d1 := (hT.cell (p := ⟨g, off + k * 4 + 1, none⟩) hg (by simp)).trans m1
      have d2 := (hT.cell (p := ⟨g, off + k * 4 + 2, none⟩) hg (by simp)).trans m2
      have d3 := (hT.cell (p := ⟨g, off + k * 4 + 3, none⟩) hg (by simp)).trans m3
      have hs2 := kdN_snoc (k := 2) hkl
      have hs3 := kdN_snoc (k := 3) hkl
      have hb2 := Nat.le_trans (kdN_le 2 (l.take k)) (take_le' l k)
      have hb3 := Nat.le_trans (kdN_le 3 (l.take k)) (take_le' l k)
      obtain ⟨e, he⟩ : ∃ e, e = l[k] := ⟨_, rfl⟩
      rw [← he] at d0 d1 d2 d3 hs2 hs3
      have H2 : Hid _ := hs2
      have H3 : Hid _ := hs3
      have hcb2 := hcb
      have HC0 : Hid _ := hcb
      have hlq := lt_of_heap hcb.st
      have HZ2 : Hid (CntB wr w.heap.size 0 0 0 0 0 0) := hzb
      have HC2 : Hid _ := hcb2
      have HTA : Hid (Touch w wr []) := HT.out
      obtain ⟨c0, c1, c2, c3, c4, c5⟩ := hcb2.cells
      have f4 := hcb2.fr 4
      have f5 := hcb2.fr 5
      have hw2 : IntKind.i64.wrap ((kdN 2 (l.take k) : Int) + 1) = (kdN 2 (l.take k) : Int) + 1 := by rw [IntKind.wrap_i64]; omega
      have hw3 : IntKind.i64.wrap ((kdN 3 (l.take k) : Int) + 1) = (kdN 3 (l.take k) : Int) + 1 := by rw [IntKind.wrap_i64]; omega
      clear m0 m1 m2 m3 he hT hs2 hs3 hcb hzb hcb2
      generalize kdN 2 (l.take k) = R at *
      generalize kdN 3 (l.take k) = X at *
      by_cases h2 : e.k = 2
      · have p2 : (e.k == 2) = true := by simpa using h2
        have HR2 : Hid (kdN 2 (l.take (k + 1)) = R + 1 ∧ kdN 3 (l.take (k + 1)) = X) := ⟨by rw [H2.out, if_pos h2], by rw [H3.out, if_neg (by omega), Nat.add_zero]⟩
        have HN2 : Hid (CntB (wr.setCell ⟨q, 4, none⟩ (.int .i64 ((R : Int) + 1))) q A C B O ((R + 1 : Nat) : Int) X) := HC0.out.set4 _
        have TS : Touch wr (wr.setCell ⟨q, 4, none⟩ (.int .i64 ((R : Int) + 1))) [q] := (Touch.refl _ [q]).setCell (.inl (by simp)) _
        have HZ3 : Hid _ := HZ.out.touch TS (by simp; have := HQ.out.1; omega)
        have HT3 : Hid (Touch w (wr.setCell ⟨q, 4, none⟩ (.int .i64 ((R : Int) + 1))) []) := HT.out.trans TS (fun x hx => .inr (by simp at hx; have := HQ.out.2; omega))
        have p3 : (e.k == 3) = false := by simp; omega
        have hgq : g ≠ q := by have := HQ.out.2; omega
        have d0' : (wr.setCell ⟨q, 4, none⟩ (.int .i64 ((R : Int) + 1))).cell? ⟨g, off + k * 4, none⟩ = some (.int .u8 e.k) := (TS.cell (p := ⟨g, off + k * 4, none⟩) (Nat.lt_of_lt_of_le hg HT.out.size) (by simpa using hgq)).trans d0
        clear h2 TS
        go_wp2
        go_roundw
        case rel => exact ⟨k + 1, by go_num, by omega, by rw [HR2.out.1, HR2.out.2]; exact HN2.out, HZ3.out, HT3.out⟩
        case measure => simp [intOf]; omega
      · have p2 : (e.k == 2) = false := by simpa using h2
        by_cases h3 : e.k = 3
        · have p3 : (e.k == 3) = true := by simpa using h3
          have HR2 : Hid (kdN 2 (l.take (k + 1)) = R ∧ kdN 3 (l.take (k + 1)) = X + 1) := ⟨by rw [H2.out, if_neg h2, Nat.add_zero], by rw [H3.out, if_pos h3]⟩
          have HN2 : Hid (CntB (wr.setCell ⟨q, 5, none⟩ (.int .i64 ((X : Int) + 1))) q A C B O R ((X + 1 : Nat) : Int)) := HC0.out.set5 _
          have TS : Touch wr (wr.setCell ⟨q, 5, none⟩ (.int .i64 ((X : Int) + 1))) [q] := (Touch.refl _ [q]).setCell (.inl (by simp)) _
          have HZ3 : Hid _ := HZ.out.touch TS (by simp; have := HQ.out.1; omega)
          have HT3 : Hid (Touch w (wr.setCell ⟨q, 5, none⟩ (.int .i64 ((X : Int) + 1))) []) := HT.out.trans TS (fun x hx => .inr (by simp at hx; have := HQ.out.2; omega))
          clear h2 h3 TS
          go_wp2
          go_roundw
          case rel => exact ⟨k + 1, by go_num, by omega, by rw [HR2.out.1, HR2.out.2]; exact HN2.out, HZ3.out, HT3.out⟩
          case measure => simp [intOf]; omega
        · have p3 : (e.k == 3) = false := by simpa using h3
          have HR2 : Hid (kdN 2 (l.take (k + 1)) = R ∧ kdN 3 (l.take (k + 1)) = X) := ⟨by rw [H2.out, if_neg h2, Nat.add_zero], by rw [H3.out, if_neg h3, Nat.add_zero]⟩
          clear h2 h3
          go_wp2
          go_roundw
          case rel => exact ⟨k + 1, by go_num, by omega, by rw [HR2.out.1, HR2.out.2]; exact HC2.out, HZ2.out, HTA.out⟩
          case measure => simp [intOf]; omega
    · obtain rfl : k = N := by omega
      have hall : l.take k = l := by rw [HN.out, List.take_length]
      rw [hall] at hcb
      obtain ⟨c0, c1, c2, c3, c4, c5⟩ := hcb.cells
      obtain ⟨z0, z1, z2, z3, z4, z5⟩ := hzb.cells
      have g0 := hzb.fr 0
      have g1 := hzb.fr 1
      have g2 := hzb.fr 2
      have g3 := hzb.fr 3
      have g4 := hzb.fr 4
      have g5 := hzb.fr 5
      clear hcb hzb hT hall
      generalize kdN 2 l = R at *
      generalize kdN 3 l = X at *
      go_wp2
      refine bodyPost_ret (v := .agg V) ?_ rfl ⟨rfl, ?_⟩
      · rw [res_cell rfl, HV.out]
        have hcn := HZ.out
        simp [go_sem, z0, z1, z2, z3, z4, z5]
      · exact (((((HT.out.setCell (.inr (Nat.le_refl _)) _).setCell (.inr (Nat.le_refl _)) _).setCell (.inr (Nat.le_refl _)) _).setCell (.inr (Nat.le_refl _)) _).setCell (.inr (Nat.le_refl _)) _).setCell (.inr (Nat.le_refl _)) _

end Go.Proofs.YtmiaibpdeofokaaGreatDoor
