/-
  package trace: Conflicts, where of each two the first one was before the second one.
-/
import Derived.Test.YtmiaibpdeofokaaDoorTrChain
namespace Go.Proofs.YtmiaibpdeofokaaDoor
set_option linter.unusedVariables false
set_option linter.unusedSimpArgs false
open Go.RowKit Go.Maps
attribute [local go_sem] Oper.semAt_some

set_option maxRecDepth 100000 in
set_option maxHeartbeats 4000000 in
theorem conf_none {w : World} {ao : Option Addr} {cap : Nat} {l : List EvD} (hr : EvRow w (.slice ao l.length cap) l) (hl : l.length ≤ 1000) (hwf : ∀ e ∈ l, e.Wf) (hb : ∀ i j, i < j → j < (attS l).length → befC l i j = true) :
    Calls Tryd.prog 17 #[.slice ao l.length cap] w fun y w' => y = .returned (.slice none 0 0) ∧ Touch w w' [] := by
  have HCR : Hid (HidC Tryd.prog 30 #[.slice ao l.length cap] w fun y w' => ∃ g ms, y = .returned (.slice (some ⟨g, 0, none⟩) (attS l).length (attS l).length) ∧ CrsAt w' w.heap.size g l l.length (attS l) ms ∧ Touch w w' []) := ⟨courses_any hr hl hwf⟩
  have hal : (attS l).length ≤ l.length := attS_le l
  generalize hLL : l.length = L at *
  have HLL : Hid (l.length = L) := hLL
  have HBB : Hid (∀ i j, i < j → j < (attS l).length → befC l i j = true) := hb
  clear hr hwf hLL hb
  go_enter Tryd.func17, Tryd.ntmps17
  go_wp2_with fail
  refine HCR.out.out.mono ?_
  rintro y w2 ⟨g, ms, rfl, hC, t2⟩
  obtain ⟨fa, fb, fx, fm, HFF⟩ : ∃ (fa fb fx : Nat → Int) (fm : Nat → Option Nat), Hid ((∀ i, i < (attS l).length → (rowQ l L (attS l) ms)[i]? = some ⟨.int .i64 (fa i), .int .i64 (fb i), .int .i64 (fx i), .map (fm i)⟩) ∧ ∀ i j, befC l i j = decide (fx i < fb j)) := by
    refine ⟨fun i => (attS l).getD i 0, fun i => begN l ((attS l).getD i 0) L, fun i => endN l ((attS l).getD i 0) L, fun i => some (ms.getD i 0), fun i hi => ?_, fun i j => by unfold befC; rw [HLL.out]⟩
    have hm : i < ms.length := by rw [hC.len]; exact hi
    have e : (attS l).getD i 0 = (attS l)[i] := by rw [List.getD_eq_getElem?_getD, List.getElem?_eq_getElem hi]; rfl
    have e2 : ms.getD i 0 = ms[i] := by rw [List.getD_eq_getElem?_getD, List.getElem?_eq_getElem hm]; rfl
    rw [rowQ_at hi hm]
    simp only [e, e2]
    rfl
  have T2 : Hid (Touch w w2 []) := t2
  have HROW : Hid (R4 w2 g (rowQ l L (attS l) ms)) := hC.row
  have HF2 : Hid (∀ i j, i < j → j < (attS l).length → decide (fx i < fb j) = true) := fun i j h1 h2 => by rw [← HFF.out.2 i j]; exact HBB.out i j h1 h2
  have HF1 : Hid (∀ i, i < (attS l).length → (rowQ l L (attS l) ms)[i]? = some ⟨.int .i64 (fa i), .int .i64 (fb i), .int .i64 (fx i), .map (fm i)⟩) := HFF.out.1
  clear hC t2 HCR HBB HFF
  generalize rowQ l L (attS l) ms = X at *
  generalize (attS l).length = N at *
  go_wp2_with fail
  go_loopw [3, 13] (fun v i wr => ∃ k : Nat, i = .int .i64 k ∧ k ≤ N ∧ v = .slice none 0 0 ∧ R4 wr g X ∧ Touch w wr []) (fun _ i _ => N - (intOf i).toNat)
  case atStart => exact ⟨0, rfl, Nat.zero_le _, rfl, HROW.out, T2.out⟩
  case round =>
    obtain ⟨i, rfl, hi, rfl, hR4, hT⟩ := hrel
    clear HROW T2
    have HT : Hid _ := hT
    by_cases hlt : i < N
    · have h1 : (i : Int) < N := by omega
      have h0 : (0 : Int) ≤ i := by omega
      have hq := HF1.out i hlt
      have HBI : Hid (∀ j, i < j → j < N → decide (fx i < fb j) = true) := fun j h1 h2 => HF2.out i j h1 h2
      generalize fa i = qa at *
      generalize fb i = qb at *
      generalize fx i = qx at *
      generalize fm i = qm at *
      have d0 := hR4.cell hq 0 (by omega)
      have d1 := hR4.cell hq 1 (by omega)
      have d2 := hR4.cell hq 2 (by omega)
      have d3 := hR4.cell hq 3 (by omega)
      simp only [Q4.cells, List.getElem?_cons_succ, List.getElem?_cons_zero, Nat.add_zero] at d0 d1 d2 d3
      have TA : Touch wr (wr.alloc (.cells #[.int .i64 qa, .int .i64 qb, .int .i64 qx, .map qm] 68)) [] := (Touch.refl wr []).alloc _
      have HX4 : Hid (R4 (wr.alloc (.cells #[.int .i64 qa, .int .i64 qb, .int .i64 qx, .map qm] 68)) g X) := hR4.touch TA (by simp)
      have HXB : Hid (BxQ (wr.alloc (.cells #[.int .i64 qa, .int .i64 qb, .int .i64 qx, .map qm] 68)) wr.heap.size ⟨.int .i64 qa, .int .i64 qb, .int .i64 qx, .map qm⟩) := ⟨heap_alloc_new wr _⟩
      have HXT : Hid (Touch w (wr.alloc (.cells #[.int .i64 qa, .int .i64 qb, .int .i64 qx, .map qm] 68)) []) := HT.out.alloc _
      have hw1 : IntKind.i64.wrap ((i : Int) + 1) = ((i + 1 : Nat) : Int) := by rw [IntKind.wrap_i64]; omega
      have hi1 : ((i + 1 : Nat) : Int) ≤ N := by omega
      have hi0 : (0 : Int) ≤ ((i + 1 : Nat) : Int) := by omega
      have hle1 : i + 1 ≤ N := by omega
      clear hR4 TA hT
      by_cases hN1 : N = i + 1
      · subst hN1
        go_wp2_with fail
        generalize (wr.alloc (.cells #[.int .i64 qa, .int .i64 qb, .int .i64 qx, .map qm] 68)) = Q1 at *
        go_loopw [3, 23] (fun v jv wv => v = .slice none 0 0 ∧ jv = .int .i64 0 ∧ wv = Q1) (fun _ _ _ => 0)
        case atStart => exact ⟨rfl, rfl, rfl⟩
        case round =>
          obtain ⟨rfl, rfl, hww⟩ := hrel
          subst hww
          go_wp2
          go_roundw
          case rel => exact ⟨i + 1, by go_num, by omega, rfl, HX4.out, HXT.out⟩
          case measure => simp [intOf]
      · obtain ⟨M, hM⟩ : ∃ M, M = N - (i + 1) := ⟨_, rfl⟩
        have HM : Hid (M = N - (i + 1)) := hM
        go_wp2_with fail
        rw [← hM]
        clear hM d0 d1 d2 d3
        generalize (wr.alloc (.cells #[.int .i64 qa, .int .i64 qb, .int .i64 qx, .map qm] 68)) = Q1 at *
        generalize wr.heap.size = bx at *
        go_loopw [3, 23] (fun v jv wv => ∃ j : Nat, jv = .int .i64 j ∧ j ≤ M ∧ v = .slice none 0 0 ∧ R4 wv g X ∧ BxQ wv bx ⟨.int .i64 qa, .int .i64 qb, .int .i64 qx, .map qm⟩ ∧ Touch w wv []) (fun _ jv _ => M - (intOf jv).toNat)
        case atStart => exact ⟨0, rfl, Nat.zero_le _, rfl, HX4.out, HXB.out, HXT.out⟩
        case round =>
          obtain ⟨j, rfl, hj, rfl, hR4, hBx, hT⟩ := hrel
          clear HT HX4 HXB HXT
          have HT : Hid _ := hT
          have HR4 : Hid _ := hR4
          have HBX : Hid _ := hBx
          by_cases hjl : j < M
          · have h1j : (j : Int) < M := by omega
            have h0j : (0 : Int) ≤ j := by omega
            have hjN : i + 1 + j < N := by have := HM.out; omega
            have hr := HF1.out (i + 1 + j) hjN
            have hdc : decide (qx < fb (i + 1 + j)) = true := HBI.out (i + 1 + j) (by omega) hjN
            generalize fa (i + 1 + j) = ra at *
            generalize fb (i + 1 + j) = rb at *
            generalize fx (i + 1 + j) = rx at *
            generalize fm (i + 1 + j) = rm at *
            have eo : (i + 1 + j) * 4 = (i + 1) * 4 + j * 4 := by omega
            have d0 := hR4.cell hr 0 (by omega)
            have d1 := hR4.cell hr 1 (by omega)
            have d2 := hR4.cell hr 2 (by omega)
            have d3 := hR4.cell hr 3 (by omega)
            rw [eo] at d0 d1 d2 d3
            simp only [Q4.cells, List.getElem?_cons_succ, List.getElem?_cons_zero, Nat.add_zero] at d0 d1 d2 d3
            have TA : Touch wr (wr.alloc (.cells #[.int .i64 ra, .int .i64 rb, .int .i64 rx, .map rm] 68)) [] := (Touch.refl wr []).alloc _
            obtain ⟨y0, y1, y2, y3⟩ := (hBx.touch TA (by simp)).cells
            have HBF : Hid (HidC Tryd.prog 31 #[.agg #[.int .i64 qa, .int .i64 qb, .int .i64 qx, .map qm], .agg #[.int .i64 ra, .int .i64 rb, .int .i64 rx, .map rm]] (wr.alloc (.cells #[.int .i64 ra, .int .i64 rb, .int .i64 rx, .map rm] 68)) fun e w' => e = .returned (.bool true) ∧ Touch (wr.alloc (.cells #[.int .i64 ra, .int .i64 rb, .int .i64 rx, .map rm] 68)) w' []) := ⟨by rw [← hdc]; exact before_crs ⟨.int .i64 qa, .int .i64 qb, .int .i64 qx, .map qm⟩ ⟨.int .i64 ra, .int .i64 rb, .int .i64 rx, .map rm⟩ qx rb rfl rfl _⟩
            have TAH : Hid (Touch wr (wr.alloc (.cells #[.int .i64 ra, .int .i64 rb, .int .i64 rx, .map rm] 68)) []) := TA
            clear hR4 hBx hT TA hr hdc eo
            go_wp2_with fail
            refine HBF.out.out.mono ?_
            rintro y w5 ⟨rfl, t5⟩
            have T5 : Hid (Touch wr w5 []) := TAH.out.trans t5 (by simp)
            clear t5 TAH HBF d0 d1 d2 d3 y0 y1 y2 y3
            go_wp2
            go_roundw
            case rel => exact ⟨j + 1, by go_num, by omega, rfl, HR4.out.touch T5.out (by simp), HBX.out.touch T5.out (by simp), HT.out.trans T5.out (by simp)⟩
            case measure => simp [intOf]; omega
          · clear hR4 hBx hT
            go_wp2
            go_roundw
            case rel => exact ⟨i + 1, by go_num, by omega, rfl, HR4.out, HT.out⟩
            case measure => simp [intOf]; omega
    · clear hR4 hT
      go_wp2
      go_ret
      exact ⟨rfl, HT.out⟩

end Go.Proofs.YtmiaibpdeofokaaDoor
