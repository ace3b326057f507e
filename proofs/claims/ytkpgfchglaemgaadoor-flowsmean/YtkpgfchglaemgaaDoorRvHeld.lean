/-
  FlowsMean: held BY ITS CONTRACT.
-/
import Derived.Test.YtkpgfchglaemgaaDoorRvShape
import Derived.Test.YtkpgfchglaemgaaDoorFmPl
namespace Go.Proofs.YtkpgfchglaemgaaDoor
set_option linter.unusedVariables false
set_option linter.unusedSimpArgs false
open Go.RowKit
attribute [local go_sem] Oper.semAt_some

theorem rkind_any {w : World} {b : Nat} {k s o n g : Int} {v : Value} {l : List Int} (h : RObV w b k s o n g v l) : Calls Tryd.prog 26 #[.pointer (some ⟨b, 0, none⟩)] w fun e w' => e = .returned (.int .u8 k) ∧ w = w' := by
  obtain ⟨x0, _⟩ := h.cells
  clear h
  go_enter Tryd.func26, Tryd.ntmps26
  go_wp2
  go_ret
  exact ⟨rfl, rfl⟩
theorem row_at {w : World} {g off cap : Nat} {l : List Int} (h : VRow w (.slice (some ⟨g, off, none⟩) l.length cap) l) (k : Nat) (hk : k < l.length) : w.cell? ⟨g, off + k, none⟩ = some (.int .u64 (l.getD k 0)) := by
  obtain ⟨g', off', e, _, hc⟩ := SRow.at h k hk
  simp only [Option.some.injEq, Addr.mk.injEq, and_true] at e
  obtain ⟨rfl, rfl⟩ := e
  have := hc 0 (by omega)
  rw [Nat.mul_one, Nat.add_zero] at this
  rw [this, List.getD_eq_getElem?_getD, List.getElem?_eq_getElem hk]
  rfl
set_option maxRecDepth 100000 in
set_option maxHeartbeats 2000000 in
theorem rheld_bar {w : World} {b : Nat} {s o m g : Int} {v : Value} {l h : List Int} {ah : Option Addr} {ch N : Nat} (ho : RObV w b 4 s o m g v l) (hl : l.length ≤ 900) (hh : VRow w (.slice ah h.length ch) h) (hd : fmHeldP h m g N = true) (hm : -100 ≤ m ∧ m ≤ 1000) (hg : -100 ≤ g ∧ g ≤ 1000) (x : Int) :
    Calls Tryd.prog 11 #[.pointer (some ⟨b, 0, none⟩), .slice ah h.length ch, .int .i64 x] w fun e w' => e = .returned (.bool true) ∧ Touch w w' [] := by
  unfold fmHeldP at hd
  simp only [Bool.and_eq_true, beq_iff_eq] at hd
  obtain ⟨⟨hlen, h0⟩, h1⟩ := hd
  obtain ⟨gh, offh, rfl, -, -⟩ := SRow.at hh 0 (by omega)
  have HS : HidC _ _ _ _ _ := ⟨rshapev_any ho hl⟩
  have HK : Hid (∀ W, Touch w W [] → HidC Tryd.prog 26 #[.pointer (some ⟨b, 0, none⟩)] W fun e w' => e = .returned (.int .u8 4) ∧ W = w') := fun W t => ⟨rkind_any (ho.touch t (by simp) (by simp))⟩
  have HIN : Hid (∀ m : Int, -100 ≤ m → m ≤ 1000 → ∀ W, HidC Tryd.prog 4 #[.int .i64 m] W (fun e w' => e = .returned (.tuple #[.int .u64 (numV m), .bool true]) ∧ W = w')) := fun m a b W => ⟨rint_ok m (by omega) (by omega) W⟩
  have HH : Hid (∀ W, Touch w W [] → W.cell? ⟨gh, offh, none⟩ = some (.int .u64 (numV m)) ∧ W.cell? ⟨gh, offh + 1, none⟩ = some (.int .u64 (numV g))) := fun W t => by
    have r := SRow.keep hh t (by simp)
    exact ⟨by have := row_at r 0 (by omega); rw [h0] at this; exact this, by have := row_at r 1 (by omega); rw [h1] at this; exact this⟩
  obtain ⟨nh, hnh⟩ : ∃ nh, nh = h.length := ⟨_, rfl⟩
  rw [← hnh]
  have hn1 : (1 : Int) < nh := by omega
  have hn0 : (0 : Int) < nh := by omega
  clear ho hh h0 h1 hlen hnh hl
  go_enter Tryd.func11, Tryd.ntmps11
  go_wp2_with fail
  refine HS.out.mono ?_
  rintro e w1 ⟨a, c, rfl, _, _, t1⟩
  have tA : Touch w1 (w1.alloc (.cells #[.int .i64 o, .int .i64 m, .int .i64 g, .slice a l.length c] 46)) [] := (Touch.refl w1 []).alloc _
  obtain ⟨⟨c0, c1, c2, c3⟩, _⟩ := shp_cells (heap_alloc_new w1 (.cells #[.int .i64 o, .int .i64 m, .int .i64 g, .slice a l.length c] 46))
  have HT : Hid (Touch w (w1.alloc (.cells #[.int .i64 o, .int .i64 m, .int .i64 g, .slice a l.length c] 46)) []) := t1.trans tA (by simp)
  obtain ⟨d0, d1⟩ := HH.out _ HT.out
  clear HS t1 tA
  go_wp2_with fail
  refine (HK.out _ HT.out).out.mono ?_
  rintro e _ ⟨rfl, rfl⟩
  go_wp2_with fail
  refine (HIN.out m hm.1 hm.2 _).out.mono ?_
  rintro e _ ⟨rfl, rfl⟩
  go_wp2_with fail
  refine (HIN.out g hg.1 hg.2 _).out.mono ?_
  rintro e _ ⟨rfl, rfl⟩
  go_wp2
  go_ret
  exact ⟨rfl, HT.out⟩

set_option maxRecDepth 100000 in
set_option maxHeartbeats 2000000 in
theorem rheld_q {w : World} {b : Nat} {s o m g : Int} {v : Value} {l h : List Int} {ah : Option Addr} {ch N : Nat} (ho : RObV w b 3 s o m g v l) (hl : l.length ≤ 20) (hh : VRow w (.slice ah h.length ch) h) (hw : Wf64 (h.getD 1 0)) (hd : fmHeldQ h l N = true) (hN0 : 1 ≤ N) (hN1 : N ≤ 4) :
    Calls Tryd.prog 11 #[.pointer (some ⟨b, 0, none⟩), .slice ah h.length ch, .int .i64 N] w fun e w' => e = .returned (.bool true) ∧ Touch w w' [] := by
  unfold fmHeldQ at hd
  simp only [Bool.and_eq_true, beq_iff_eq, decide_eq_true_eq, List.all_eq_true, List.mem_range] at hd
  obtain ⟨⟨⟨⟨⟨hlen, h0⟩, hr2⟩, hf0⟩, hf1⟩, hall⟩ := hd
  obtain ⟨gh, offh, rfl, -, -⟩ := SRow.at hh 0 (by omega)
  obtain ⟨fn, hfn⟩ : ∃ fn : Nat, (wholeV (ofB (h.getD 1 0).toNat)).1 = fn := ⟨(wholeV (ofB (h.getD 1 0).toNat)).1.toNat, by omega⟩
  rw [hfn] at hf0 hf1 hall
  rw [Int.toNat_natCast] at hall
  have HWH : Hid (∀ W, HidC Tryd.prog 27 #[.int .u64 (h.getD 1 0)] W fun e w' => e = .returned (.tuple #[.int .i64 fn, .bool true]) ∧ W = w') := fun W => ⟨by have := rwhole_any (h.getD 1 0) hw W; unfold pairV at this; rw [hfn, hr2] at this; exact this⟩
  have HS : HidC _ _ _ _ _ := ⟨rshapev_any ho (by omega)⟩
  have HK : Hid (∀ W, Touch w W [] → HidC Tryd.prog 26 #[.pointer (some ⟨b, 0, none⟩)] W fun e w' => e = .returned (.int .u8 3) ∧ W = w') := fun W t => ⟨rkind_any (ho.touch t (by simp) (by simp))⟩
  have HIN : Hid (∀ m : Int, -100 ≤ m → m ≤ 1000 → ∀ W, HidC Tryd.prog 4 #[.int .i64 m] W (fun e w' => e = .returned (.tuple #[.int .u64 (numV m), .bool true]) ∧ W = w')) := fun m a b W => ⟨rint_ok m (by omega) (by omega) W⟩
  have HH : Hid (∀ W, Touch w W [] → ∀ k, k < h.length → W.cell? ⟨gh, offh + k, none⟩ = some (.int .u64 (h.getD k 0))) := fun W t k hk => row_at (SRow.keep hh t (by simp)) k hk
  have HALL : Hid _ := hall
  have HH0 : Hid _ := h0
  have HLEN : Hid (h.length = N + 2) := hlen
  obtain ⟨nh, hnh⟩ : ∃ nh, nh = h.length := ⟨_, rfl⟩
  have HNH : Hid (nh = h.length) := hnh
  rw [← hnh]
  have hn1 : (1 : Int) < nh := by omega
  have hn0 : (0 : Int) < nh := by omega
  have hff : decide ((fn : Int) < 0) = false := decide_eq_false (by omega)
  have hfN : decide ((N : Int) ≤ fn) = false := decide_eq_false (by omega)
  have hNz : (N : Int) ≠ 0 := by omega
  obtain ⟨X1, hX1⟩ : ∃ X1, X1 = h.getD 1 0 := ⟨_, rfl⟩
  rw [← hX1] at HWH
  have HX1 : Hid (X1 = h.getD 1 0) := hX1
  clear ho hh h0 hlen hnh hall hfn hr2 hw hX1
  go_enter Tryd.func11, Tryd.ntmps11
  go_wp2_with fail
  refine HS.out.mono ?_
  rintro e w1 ⟨a, c, rfl, hv, hfr, t1⟩
  have tA : Touch w1 (w1.alloc (.cells #[.int .i64 o, .int .i64 m, .int .i64 g, .slice a l.length c] 46)) [] := (Touch.refl w1 []).alloc _
  have hshp := heap_alloc_new w1 (.cells #[.int .i64 o, .int .i64 m, .int .i64 g, .slice a l.length c] 46)
  obtain ⟨⟨c0, c1, c2, c3⟩, _⟩ := shp_cells hshp
  have HT : Hid (Touch w (w1.alloc (.cells #[.int .i64 o, .int .i64 m, .int .i64 g, .slice a l.length c] 46)) []) := t1.trans tA (by simp)
  have d0 := HH.out _ HT.out 0 (by have := HLEN.out; omega)
  have d1 := HH.out _ HT.out 1 (by have := HLEN.out; omega)
  rw [HH0.out] at d0
  rw [← HX1.out] at d1
  rw [Nat.add_zero] at d0
  have HSH : Hid _ := hshp
  have HV : Hid (VRow (w1.alloc (.cells #[.int .i64 o, .int .i64 m, .int .i64 g, .slice a l.length c] 46)) (.slice a l.length c) l) := SRow.keep hv tA (by simp)
  clear HS t1 tA hv hshp
  go_wp2_with fail
  refine (HK.out _ HT.out).out.mono ?_
  rintro e _ ⟨rfl, rfl⟩
  go_wp2_with fail
  refine (HIN.out (l.length : Int) (by omega) (by omega) _).out.mono ?_
  rintro e _ ⟨rfl, rfl⟩
  go_wp2_with fail
  refine (HWH.out _).out.mono ?_
  rintro e _ ⟨rfl, rfl⟩
  clear HWH HK HIN
  go_wp2_with fail
  generalize hp : w1.heap.size = p at *
  generalize (w1.alloc (.cells #[.int .i64 o, .int .i64 m, .int .i64 g, .slice a l.length c] 46)) = Y at *
  clear c0 c1 c2 c3 d0 d1 hp
  go_loopw [16] (fun vi wr => ∃ i : Nat, vi = .int .i64 i ∧ i ≤ l.length ∧ Touch Y wr []) (fun vi _ => l.length - (intOf vi).toNat)
  case atStart => exact ⟨0, rfl, Nat.zero_le _, Touch.refl _ _⟩
  case round =>
    obtain ⟨i, rfl, hi, ti⟩ := hrel
    obtain ⟨⟨c0, c1, c2, c3⟩, _⟩ := shp_cells ((ti.block _ (lt_of_heap HSH.out) (by simp)).trans HSH.out)
    by_cases hil : i < l.length
    · have hlt : (i : Int) < l.length := by omega
      have hle := HLEN.out
      have hnh2 := HNH.out
      obtain ⟨q1, hq1⟩ : ∃ q : Nat, q = fn + i := ⟨_, rfl⟩
      obtain ⟨q2, hq2⟩ : ∃ q : Nat, q = q1 % N := ⟨_, rfl⟩
      obtain ⟨q3, hq3⟩ : ∃ q : Nat, q = 2 + q2 := ⟨_, rfl⟩
      have hq2l : q2 < N := by rw [hq2]; exact Nat.mod_lt _ (by omega)
      have e1 : IntKind.i64.wrap ((fn : Int) + i) = (q1 : Int) := by rw [IntKind.wrap_i64]; omega
      have e2 : (q1 : Int).tmod N = (q2 : Int) := by rw [Int.tmod_eq_emod_of_nonneg (by omega), hq2]; simp
      have e3 : IntKind.i64.wrap (2 + (q2 : Int)) = (q3 : Int) := by rw [IntKind.wrap_i64]; omega
      have e4 : IntKind.i64.wrap ((i : Int) + 1) = (i : Int) + 1 := by rw [IntKind.wrap_i64]; omega
      have hq3l : (q3 : Int) < nh := by omega
      have hq30 : (0 : Int) ≤ q3 := by omega
      have hi0 : (0 : Int) ≤ i := by omega
      have hTi : Touch w wr.drew [] := (HT.out.trans ti (by simp)).drew
      have d := HH.out _ (HT.out.trans ti (by simp)) q3 (by omega)
      have hva := HALL.out i hil
      rw [← hq1, ← hq2, ← hq3] at hva
      rw [hva] at d
      obtain ⟨ga, offa, rfl, -, -⟩ := SRow.at HV.out i hil
      have dv := row_at (SRow.keep HV.out ti (by simp)) i hil
      have HTI : Hid _ := ti
      clear hva hq1 hq2 hq3 hq2l hle hnh2 ti
      go_wp2_with fail
      go_quiet (fail)
      go_wp2
      go_roundw
      case rel => exact ⟨i + 1, by go_num, by omega, HTI.out.drewN _⟩
      case measure => simp [intOf]; omega
    · have hge : decide ((i : Int) < l.length) = false := decide_eq_false (by omega)
      have HTI : Hid _ := ti
      clear ti
      go_wp2
      go_ret
      exact ⟨rfl, HT.out.trans HTI.out (by simp)⟩

end Go.Proofs.YtkpgfchglaemgaaDoor
