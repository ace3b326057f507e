/-
  package verify: Check BY ITS CONTRACT.
-/
import Derived.Test.YtonjbldnhbbdjaaVfRch
import Derived.Test.YtonjbldnhbbdjaaCdRight
namespace Go.Proofs.Ytonjbldnhbbdjaa
set_option linter.unusedVariables false
set_option linter.unusedSimpArgs false
open Go.RowKit
attribute [local go_sem] Oper.semAt_some

def fbad (p : Nat → Bool) (N : Nat) : Option Nat := (List.range N).find? fun k => !p k
theorem fbad_some {p : Nat → Bool} {N k : Nat} (hk : k < N) (h : ∀ j < k, p j = true) (hp : p k = false) : fbad p N = some k := by
  unfold fbad
  rw [List.find?_eq_some_iff_getElem]
  exact ⟨by simp [hp], k, by simpa using hk, by simp, fun j hj => by simp [h j hj]⟩
theorem fbad_none {p : Nat → Bool} {N : Nat} (h : ∀ j < N, p j = true) : fbad p N = none := by
  unfold fbad
  rw [List.find?_eq_none]
  intro j hj
  simp [h j (by simpa using hj)]
def okRight (l : List InsD) (k : Nat) : Bool := match l[k]? with | some i => rightI i | none => true
def okBel (l : List InsD) (k : Nat) : Bool := belV (opAt l k) ((insV l l.length).getD k 0 != -1)
/-- What Check answers: the place, the error. -/
def chkV (l : List InsD) (tvars : Int) : Nat × Int :=
  if l.length = 0 ∨ 64 < l.length then (0, 3) else match fbad (okRight l) l.length with
  | some k => (k, 3)
  | none => match regV l with
    | some k => (k, 8)
    | none => match fbad (okBel l) l.length with
      | some k => (k, 8)
      | none => match fbad (rchV l (insV l l.length) tvars) l.length with
        | some k => (k, 2)
        | none => ((depV l).2.1, (depV l).1)
/-- What Check leaves. -/
def ChkPost (w : World) (l : List InsD) (tvars : Int) (e : Ending) (w' : World) : Prop := e = .returned (.tuple #[.int .i64 (chkV l tvars).1, .int .i64 (chkV l tvars).2]) ∧ Touch w w' []

set_option maxRecDepth 100000 in
set_option maxHeartbeats 4000000 in
theorem check_any {w : World} {ao : Option Addr} {N cap : Nat} {l : List InsD} (hN : N = l.length) (hn : N ≤ 900) (hr : InsV w (.slice ao N cap) l) (tvars : Int) :
    Calls Try.prog 7 #[.slice ao N cap, .int .i64 tvars] w (ChkPost w l tvars) := by
  have HR : Hid _ := hr
  have HN : Hid _ := hN
  have HEQ : Hid (chkV l tvars = if N = 0 ∨ 64 < N then (0, 3) else match fbad (okRight l) N with
    | some k => (k, 3)
    | none => match regV l with
      | some k => (k, 8)
      | none => match fbad (okBel l) N with
        | some k => (k, 8)
        | none => match fbad (rchV l (insV l N) tvars) N with
          | some k => (k, 2)
          | none => ((depV l).2.1, (depV l).1)) := by show _ = _; rw [hN]; rfl
  have HFIN : Hid (∀ (k : Nat) e W, chkV l tvars = (k, e) → Touch w W [] → ChkPost w l tvars (.returned (.tuple #[.int .i64 k, .int .i64 e])) W) := fun k e W q t => by unfold ChkPost; rw [q]; exact ⟨rfl, t⟩
  have HT0 : Hid (Touch w w []) := Touch.refl _ _
  clear hr hN
  by_cases h0 : N = 0
  · have HV : Hid (chkV l tvars = (0, 3)) := by show _ = _; rw [HEQ.out, if_pos (.inl h0)]
    subst h0
    go_enter Try.func7, Try.ntmps7
    go_wp2
    refine bodyPost_ret (v := .tuple #[.int .i64 0, .int .i64 3]) (by simp [results, Try.results7, go_sem]) rfl ?_
    exact HFIN.out 0 3 _ HV.out HT0.out
  · have h0' : ((N : Int) == 0) = false := by simpa using h0
    by_cases h64 : 64 < N
    · have HV : Hid (chkV l tvars = (0, 3)) := by show _ = _; rw [HEQ.out, if_pos (.inr h64)]
      have h64' : (64 : Int) < N := by omega
      go_enter Try.func7, Try.ntmps7
      go_wp2
      refine bodyPost_ret (v := .tuple #[.int .i64 0, .int .i64 3]) (by simp [results, Try.results7, go_sem]) rfl ?_
      exact HFIN.out 0 3 _ HV.out HT0.out
    · have h64' : ¬ (64 : Int) < N := by omega
      have HE1 : Hid _ := HEQ.out
      rw [if_neg (by omega)] at HE1
      clear HEQ
      go_enter Try.func7, Try.ntmps7
      go_wp2_with fail
      go_loopw [24] (fun i wr => ∃ k : Nat, i = .int .i64 k ∧ k ≤ N ∧ (∀ j < k, okRight l j = true) ∧ Touch w wr []) (fun i _ => N - (intOf i).toNat)
      case atStart => exact ⟨0, rfl, Nat.zero_le _, fun j hj => by omega, HT0.out⟩
      case round =>
        obtain ⟨k, rfl, hk, hok, hT⟩ := hrel
        have HOK : Hid _ := hok
        have HT : Hid _ := hT
        by_cases hlt : k < N
        · have hr0 := SRow.keep HR.out hT (by simp)
          rw [HN.out] at hr0
          have hkl : k < l.length := by rw [← HN.out]; exact hlt
          obtain ⟨g, off, rfl, hg, c0, c1, c2⟩ := insv_at hr0 k hkl
          have hkN : (k : Int) < N := by omega
          have hk0 : (0 : Int) ≤ k := by omega
          have hkw : IntKind.i64.wrap ((k : Int) + 1) = (k : Int) + 1 := by rw [IntKind.wrap_i64]; omega
          have hcr : Hid (∀ W, HidC Try.prog 20 #[.agg #[.int .u8 (opAt l k), .int .i64 (argAt l k), .int .u64 l[k].val]] W (fun e w' => e = .returned (.bool (okRight l k)) ∧ Touch W w' [])) := fun W => ⟨by
            have q := cright_any l[k] W
            rw [opAt_get hkl, argAt_get hkl]
            have e : okRight l k = rightI l[k] := by unfold okRight; rw [List.getElem?_eq_getElem hkl]
            rw [e]; exact q⟩
          generalize hvl : l[k].val = vl at *
          generalize opAt l k = o at *
          generalize argAt l k = a at *
          generalize hrk : okRight l k = rk at *
          have HRK : Hid _ := hrk
          clear hr0 hok hT hvl hrk
          cases rk with
          | true =>
            go_wp2_with fail
            refine (hcr.out _).out.mono ?_
            rintro e w2 ⟨rfl, t2⟩
            have HT2 : Hid (Touch w w2 []) := (HT.out.alloc _).trans t2 (by simp)
            clear hcr t2
            go_wp2
            go_roundw
            case rel => exact ⟨k + 1, rfl, by omega, fun j hj => by
              rcases Nat.lt_succ_iff_lt_or_eq.1 hj with q | q
              · exact HOK.out j q
              · rw [q]; exact HRK.out, HT2.out⟩
            case measure => simp [intOf]; omega
          | false =>
            have HV : Hid (chkV l tvars = (k, 3)) := by show _ = _; rw [HE1.out, fbad_some hlt HOK.out HRK.out]
            go_wp2_with fail
            refine (hcr.out _).out.mono ?_
            rintro e w2 ⟨rfl, t2⟩
            have HT2 : Hid (Touch w w2 []) := (HT.out.alloc _).trans t2 (by simp)
            clear hcr t2
            go_wp2
            refine bodyPost_ret (v := .tuple #[.int .i64 k, .int .i64 3]) (by simp [results, Try.results7, go_sem]) rfl ?_
            exact HFIN.out k 3 _ HV.out HT2.out
        · obtain rfl : k = N := by omega
          have HE2 : Hid _ := HE1.out
          rw [fbad_none hok] at HE2
          simp only at HE2
          have hrg : HidC _ _ _ _ _ := ⟨regions_any HN.out hn (SRow.keep HR.out hT (by simp))⟩
          unfold RegPost at hrg
          clear HE1 HOK hok hT
          cases hreg : regV l with
          | some j =>
            have e1 : ansK (runV true mayV l l.length) = j := by unfold ansK; rw [show endV (runV true mayV l l.length) = some j from hreg]
            have e2 : ansE (runV true mayV l l.length) = 8 := by unfold ansE; rw [show endV (runV true mayV l l.length) = some j from hreg]
            have HV : Hid (chkV l tvars = (j, 8)) := by show _ = _; rw [HE2.out, hreg]
            rw [e1, e2] at hrg
            clear e1 e2 hreg HE2
            go_wp2_with fail
            refine hrg.out.mono ?_
            rintro e w1 ⟨v, rfl, _, t1⟩
            have T1 : Hid (Touch w w1 []) := HT.out.trans t1 (by simp)
            clear hrg t1
            go_wp2
            refine bodyPost_ret (v := .tuple #[.int .i64 j, .int .i64 8]) (by simp [results, Try.results7, go_sem]) rfl ?_
            exact HFIN.out j 8 _ HV.out T1.out
          | none =>
            have e1 : ansK (runV true mayV l l.length) = 0 := by unfold ansK; rw [show endV (runV true mayV l l.length) = none from hreg]
            have e2 : ansE (runV true mayV l l.length) = 0 := by unfold ansE; rw [show endV (runV true mayV l l.length) = none from hreg]
            have e3 : ansI (runV true mayV l l.length) (insV l l.length) = insV l l.length := by unfold ansI; rw [show endV (runV true mayV l l.length) = none from hreg]
            rw [e1, e2, e3, ← HN.out] at hrg
            rw [hreg] at HE2
            simp only at HE2
            clear e1 e2 e3 hreg
            go_wp2_with fail
            refine hrg.out.mono ?_
            rintro e w1 ⟨v, rfl, hrow, t1⟩
            have hT1 : Touch w w1 [] := HT.out.trans t1 (by simp)
            have hil : (insV l k).length = k := insV_len l k
            obtain ⟨ai0, ci, hv⟩ := owns_slice hrow
            rw [hil] at hv
            subst hv
            obtain ⟨gi, ci', hai⟩ := Go.Joins.ownsRow_form hrow (by rw [hil]; omega)
            rw [hil] at hai
            simp only [Value.slice.injEq, true_and] at hai
            obtain ⟨rfl, rfl⟩ := hai
            have HROW : Hid (intOwnV w1 wr.heap.size (.slice (some ⟨gi, 0, none⟩) k ci) (insV l k)) := hrow
            have hgi : gi < w1.heap.size := (hrow.lt gi rfl).2
            have HIA : Hid (∀ W, Touch w1 W [] → ∀ j, j < k → W.cell? ⟨gi, j, none⟩ = some (.int .i64 ((insV l k).getD j 0))) := fun W t j hj => by
              have q := HROW.out
              unfold intOwnV at q
              rw [hil] at q
              rw [t.cell (p := ⟨gi, j, none⟩) hgi (by simp), q.cellAt j (by omega), List.getElem?_map, List.getElem?_eq_getElem (by omega), List.getD_eq_getElem?_getD, List.getElem?_eq_getElem (by omega)]; rfl
            have HT1 : Hid _ := hT1
            clear hrg t1 hrow hT1
            go_wp2_with fail
            go_loopw [46] (fun i wr => ∃ j : Nat, i = .int .i64 j ∧ j ≤ k ∧ (∀ x < j, okBel l x = true) ∧ Touch w1 wr []) (fun i _ => k - (intOf i).toNat)
            case atStart => exact ⟨0, rfl, Nat.zero_le _, fun j hj => by omega, Touch.refl _ _⟩
            case round =>
              obtain ⟨j, rfl, hj, hok, hTj⟩ := hrel
              have HOK : Hid _ := hok
              have HTJ : Hid _ := hTj
              have hTw : Touch w wr [] := HT1.out.trans hTj (by simp)
              have HTW : Hid _ := hTw
              by_cases hlt2 : j < k
              · have hr0 := SRow.keep HR.out hTw (by simp)
                rw [HN.out] at hr0
                have hkl : j < l.length := by rw [← HN.out]; exact hlt2
                obtain ⟨g, off, rfl, hg, c0, c1, c2⟩ := insv_at hr0 j hkl
                have hkN : (j : Int) < k := by omega
                have hk0 : (0 : Int) ≤ j := by omega
                have hkw : IntKind.i64.wrap ((j : Int) + 1) = (j : Int) + 1 := by rw [IntKind.wrap_i64]; omega
                have hij := HIA.out _ (hTj.alloc (.cells #[.int .u8 (opAt l j), .int .i64 (argAt l j), .int .u64 l[j].val] 42)) j hlt2
                have hbe : Hid (∀ W, HidC Try.prog 21 #[.int .u8 (opAt l j), .bool ((insV l k).getD j 0 != -1)] W (fun e w' => e = .returned (.bool (okBel l j)) ∧ W = w')) := fun W => ⟨by
                  have q := belongs_any (opAt l j) ((insV l k).getD j 0 != -1) W
                  unfold okBel
                  rw [← HN.out]
                  exact q⟩
                generalize hvl : l[j].val = vl at *
                generalize opAt l j = o at *
                generalize argAt l j = a at *
                generalize hrk : okBel l j = rk at *
                generalize (insV l k).getD j 0 = y at *
                have HRK : Hid _ := hrk
                have eB : (wr.alloc (.cells #[.int .u8 o, .int .i64 a, .int .u64 vl] 42)).heap[wr.heap.size]? = some (.cells #[.int .u8 o, .int .i64 a, .int .u64 vl] 42 (0, 0)) := heap_alloc_new wr _
                have q0 : (wr.alloc (.cells #[.int .u8 o, .int .i64 a, .int .u64 vl] 42)).cell? ⟨wr.heap.size, 0, none⟩ = some (.int .u8 o) := by unfold World.cell?; rw [eB]; rfl
                have HTA : Hid (Touch w1 (wr.alloc (.cells #[.int .u8 o, .int .i64 a, .int .u64 vl] 42)) []) := HTJ.out.alloc _
                clear hr0 hok hTj hTw hvl hrk eB
                cases rk with
                | true =>
                  go_wp2_with fail
                  go_region_held3 (fun w' => w'.cell? ⟨wr.heap.size, 0, none⟩ = some (.int .u8 o) ∧ w'.cell? ⟨gi, j, none⟩ = some (.int .i64 y)) (exact ⟨q0, hij⟩) (first | (go_at_call 21; refine (hbe.out _).out.mono ?_; rintro e w4 ⟨rfl, rfl⟩))
                  go_wp2
                  go_roundw
                  case rel => exact ⟨j + 1, rfl, by omega, fun x hx => by
                    rcases Nat.lt_succ_iff_lt_or_eq.1 hx with q | q
                    · exact HOK.out x q
                    · rw [q]; exact HRK.out, HTA.out.drew⟩
                  case measure => simp [intOf]; omega
                | false =>
                  have HV : Hid (chkV l tvars = (j, 8)) := by show _ = _; rw [HE2.out, fbad_some hlt2 HOK.out HRK.out]
                  go_wp2_with fail
                  go_region_held3 (fun w' => w'.cell? ⟨wr.heap.size, 0, none⟩ = some (.int .u8 o) ∧ w'.cell? ⟨gi, j, none⟩ = some (.int .i64 y)) (exact ⟨q0, hij⟩) (first | (go_at_call 21; refine (hbe.out _).out.mono ?_; rintro e w4 ⟨rfl, rfl⟩))
                  go_wp2
                  refine bodyPost_ret (v := .tuple #[.int .i64 j, .int .i64 8]) (by simp [results, Try.results7, go_sem]) rfl ?_
                  exact HFIN.out j 8 _ HV.out ((HT1.out.trans HTA.out (by simp)).drew)
              · obtain rfl : j = k := by omega
                have HE3 : Hid _ := HE2.out
                rw [fbad_none hok] at HE3
                simp only at HE3
                clear HE2 HOK hok hTj hTw
                go_wp2_with fail
                go_loopw [64] (fun i wr2 => ∃ x : Nat, i = .int .i64 x ∧ x ≤ j ∧ (∀ y < x, rchV l (insV l j) tvars y = true) ∧ Touch w1 wr2 []) (fun i _ => j - (intOf i).toNat)
                case atStart => exact ⟨0, rfl, Nat.zero_le _, fun j hj => by omega, HTJ.out⟩
                case round =>
                  obtain ⟨x, rfl, hx, hok, hTx⟩ := hrel
                  have HOK : Hid _ := hok
                  have HTX : Hid _ := hTx
                  have HTWX : Hid (Touch w wr []) := HT1.out.trans hTx (by simp)
                  by_cases hlt3 : x < j
                  · have hkN : (x : Int) < j := by omega
                    have hk0 : (0 : Int) ≤ x := by omega
                    have hkw : IntKind.i64.wrap ((x : Int) + 1) = (x : Int) + 1 := by rw [IntKind.wrap_i64]; omega
                    have hrc : HidC _ _ _ _ _ := ⟨reaches_any HN.out hn (SRow.keep HR.out HTWX.out (by simp)) (ownsRow_touch HROW.out hTx (by simp)) hil tvars x hlt3⟩
                    generalize hrk : rchV l (insV l j) tvars x = rk at *
                    have HRK : Hid _ := hrk
                    clear hok hTx hrk
                    cases rk with
                    | true =>
                      go_wp2_with fail
                      refine hrc.out.mono ?_
                      rintro e w5 ⟨rfl, t5⟩
                      have HT5 : Hid (Touch w1 w5 []) := HTX.out.trans t5 (by simp)
                      clear hrc t5
                      go_wp2
                      go_roundw
                      case rel => exact ⟨x + 1, rfl, by omega, fun y hy => by
                        rcases Nat.lt_succ_iff_lt_or_eq.1 hy with q | q
                        · exact HOK.out y q
                        · rw [q]; exact HRK.out, HT5.out⟩
                      case measure => simp [intOf]; omega
                    | false =>
                      have HV : Hid (chkV l tvars = (x, 2)) := by show _ = _; rw [HE3.out, fbad_some hlt3 HOK.out HRK.out]
                      go_wp2_with fail
                      refine hrc.out.mono ?_
                      rintro e w5 ⟨rfl, t5⟩
                      have HT5 : Hid (Touch w1 w5 []) := HTX.out.trans t5 (by simp)
                      clear hrc t5
                      go_wp2
                      refine bodyPost_ret (v := .tuple #[.int .i64 x, .int .i64 2]) (by simp [results, Try.results7, go_sem]) rfl ?_
                      exact HFIN.out x 2 _ HV.out (HT1.out.trans HT5.out (by simp))
                  · obtain rfl : x = j := by omega
                    have HV : Hid (chkV l tvars = ((depV l).2.1, (depV l).1)) := by show _ = _; rw [HE3.out, fbad_none hok]
                    have hdp : HidC _ _ _ _ _ := ⟨depths_any HN.out hn (SRow.keep HR.out HTWX.out (by simp))⟩
                    clear hok hTx HE3
                    go_wp2_with fail
                    refine hdp.out.mono ?_
                    rintro e w5 ⟨v5, rfl, _, t5⟩
                    have HT5 : Hid (Touch w w5 []) := HTWX.out.trans t5 (by simp)
                    clear hdp t5
                    go_wp2
                    refine bodyPost_ret (v := .tuple #[.int .i64 (depV l).2.1, .int .i64 (depV l).1]) (by simp [results, Try.results7, go_sem]) rfl ?_
                    exact HFIN.out _ _ _ HV.out HT5.out

end Go.Proofs.Ytonjbldnhbbdjaa
