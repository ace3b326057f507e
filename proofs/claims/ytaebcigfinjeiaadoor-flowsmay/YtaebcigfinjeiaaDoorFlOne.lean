/-
  rowlocklaw23.one BY ITS CONTRACT. Written by mkfl.py.
-/
import Derived.Test.YtaebcigfinjeiaaDoorFlLaws
import Derived.Test.YtaebcigfinjeiaaDoorLkOne
namespace Go.Proofs.YtaebcigfinjeiaaDoor
set_option linter.unusedVariables false
set_option linter.unusedSimpArgs false
open Go.RowKit
attribute [local go_sem] Oper.semAt_some

def foneL (j n v : Int) : List InsD := if j = 0 then enterI 0 0 n 0 v else if j = 1 then takeI 0 0 n 0 0 else if j = 2 then arriveI 0 0 n 0 0 else leaveI 0 0 0 2 0
def foneV (j v : Int) : Int := if j = 0 then v else if j = 1 then 0 else if j = 2 then 0 else v
def FOneP (w : World) (j n v : Int) (e : Ending) (w' : World) : Prop :=
  ∃ ao cap, e = .returned (.tuple #[.slice ao (foneL j n v).length cap, .agg #[.int .u8 (j + 5), .int .i64 0, .int .u64 (foneV j v)], .int .i64 0]) ∧ InsIn w' ao (foneL j n v).length cap (foneL j n v) ∧ Touch w w' []
theorem fone_first (j n v : Int) : 0 < (foneL j n v).length ∧ ∀ h : 0 < (foneL j n v).length, (foneL j n v)[0].op = 21 := by
  unfold foneL
  split
  · exact ⟨by show 0 < _; simp [enterI, takeI, arriveI, leaveI], fun _ => rfl⟩
  · split
    · exact ⟨by show 0 < _; simp [enterI, takeI, arriveI, leaveI], fun _ => rfl⟩
    · split
      · exact ⟨by show 0 < _; simp [enterI, takeI, arriveI, leaveI], fun _ => rfl⟩
      · exact ⟨by show 0 < _; simp [enterI, takeI, arriveI, leaveI], fun _ => rfl⟩
set_option maxRecDepth 100000 in
set_option maxHeartbeats 4000000 in
theorem flone_any {w : World} (hw : Wds w) (k n v : Int) (k0 : 0 ≤ k) (k1 : k ≤ 255) (n0 : 1 ≤ n) (n1 : n ≤ 4) (hv : Wf64 v) (hr : rightB v = true) :
    Calls Tryd.prog 17 #[.int .u8 k, .int .i64 n, .int .u64 v] w (FOneP w (k % 4) n v) := by
  have C0 : Hid (∀ W, Touch w W [] → HidC Tryd.prog 7 #[.int .i64 0, .int .i64 0, .int .i64 n, .int .u64 v] W (fun e w' => ∃ ao cap, e = .returned (.tuple #[.slice ao (enterI 0 0 n 0 v).length cap, .int .i64 0]) ∧ InsIn w' ao (enterI 0 0 n 0 v).length cap (enterI 0 0 n 0 v) ∧ Touch W w' [])) := fun W tw => ⟨(flenter_any (hw.touch tw (by simp)) 0 0 n v hv).mono fun e w' h => lk_ok (by unfold enterE enterMay; simp [n0, n1, hr]; omega) h⟩
  have C1 : Hid (∀ W, Touch w W [] → HidC Tryd.prog 9 #[.int .i64 0, .int .i64 0, .int .i64 n] W (fun e w' => ∃ ao cap, e = .returned (.tuple #[.slice ao (takeI 0 0 n 0 0).length cap, .int .i64 0]) ∧ InsIn w' ao (takeI 0 0 n 0 0).length cap (takeI 0 0 n 0 0) ∧ Touch W w' [])) := fun W tw => ⟨(fltake_any (hw.touch tw (by simp)) 0 0 n).mono fun e w' h => lk_ok (by unfold takeE takeMay; simp [n0, n1]; try omega) h⟩
  have C2 : Hid (∀ W, Touch w W [] → HidC Tryd.prog 13 #[.int .i64 0, .int .i64 0, .int .i64 n] W (fun e w' => ∃ ao cap, e = .returned (.tuple #[.slice ao (arriveI 0 0 n 0 0).length cap, .int .i64 0]) ∧ InsIn w' ao (arriveI 0 0 n 0 0).length cap (arriveI 0 0 n 0 0) ∧ Touch W w' [])) := fun W tw => ⟨(flarrive_any (hw.touch tw (by simp)) 0 0 n).mono fun e w' h => lk_ok (by unfold arriveE arriveMay; simp [n0, n1]; try omega) h⟩
  have C3 : Hid (∀ W, Touch w W [] → HidC Tryd.prog 15 #[.int .i64 0, .int .i64 0, .int .i64 2] W (fun e w' => ∃ ao cap, e = .returned (.tuple #[.slice ao (leaveI 0 0 0 2 0).length cap, .int .i64 0]) ∧ InsIn w' ao (leaveI 0 0 0 2 0).length cap (leaveI 0 0 0 2 0) ∧ Touch W w' [])) := fun W tw => ⟨(flleave_any (hw.touch tw (by simp)) 0 0 2).mono fun e w' h => lk_ok (by decide) h⟩
  obtain ⟨j, hj⟩ : ∃ j, j = k % 4 := ⟨_, rfl⟩
  have hj4 : j = 0 ∨ j = 1 ∨ j = 2 ∨ j = 3 := by omega
  have hrem : k.tmod 4 = j := by rw [hj, Int.tmod_eq_emod_of_nonneg k0]
  have hwj : IntKind.u8.wrap j = j := by rw [IntKind.wrap_u8]; omega
  rw [← hj]
  have HTA : Hid (∀ q vv, Touch w ((w.alloc (.cells #[.int .u8 0, .int .i64 0, .int .u64 0] 36)).alloc (.cells #[.int .u8 q, .int .i64 0, .int .u64 vv] 36)) []) := fun q vv => ((Touch.refl w []).alloc _).alloc _
  have HA : Hid (∀ q vv, BoxC ((w.alloc (.cells #[.int .u8 0, .int .i64 0, .int .u64 0] 36)).alloc (.cells #[.int .u8 q, .int .i64 0, .int .u64 vv] 36)) w.heap.size 0 0 0) := fun q vv => (BoxC.new w 0 0 0).touch ((Touch.refl _ []).alloc _) (by simp)
  have HB : Hid (∀ q vv, BoxC ((w.alloc (.cells #[.int .u8 0, .int .i64 0, .int .u64 0] 36)).alloc (.cells #[.int .u8 q, .int .i64 0, .int .u64 vv] 36)) (w.heap.size + 1) q 0 vv) := fun q vv => by
    have := BoxC.new (w.alloc (.cells #[.int .u8 0, .int .i64 0, .int .u64 0] 36)) q 0 vv
    simpa using this
  clear hj hw hr hv
  go_enter Tryd.func17, Tryd.ntmps17
  rcases hj4 with rfl | rfl | rfl | rfl
  · go_wp2_with fail
    have ta := HTA.out 5 v
    have ba := HA.out 5 v
    have bb := HB.out 5 v
    generalize ((w.alloc (.cells #[.int .u8 0, .int .i64 0, .int .u64 0] 36)).alloc (.cells #[.int .u8 5, .int .i64 0, .int .u64 v] 36)) = Q at *
    have HTA' : Hid _ := ta
    have HA' : Hid _ := ba
    have HB' : Hid _ := bb
    clear ta ba bb HTA HA HB
    refine (C0.out _ HTA'.out).out.mono ?_
    rintro e w1 ⟨ao, cap, rfl, hin, s1⟩
    have HT1 : Hid (Touch w w1 []) := HTA'.out.trans s1 (by simp)
    obtain ⟨a0, a1, a2⟩ := (HA'.out.touch s1 (by simp)).cells
    obtain ⟨b0, b1, b2⟩ := (HB'.out.touch s1 (by simp)).cells
    have f0 := (HA'.out.touch s1 (by simp)).fr 0
    have f1 := (HA'.out.touch s1 (by simp)).fr 1
    have f2 := (HA'.out.touch s1 (by simp)).fr 2
    have HA1 : Hid _ := HA'.out.touch s1 (by simp)
    have HL : Hid (foneL 0 n v = enterI 0 0 n 0 v) := by show _ = _; unfold foneL; simp
    have HV : Hid (foneV 0 v = v) := by show _ = _; unfold foneV; simp
    have HIN : Hid (∀ W', Touch w1 W' [w.heap.size] → InsIn W' ao (enterI 0 0 n 0 v).length cap (enterI 0 0 n 0 v)) := by
      have h1 := fone_first 0 n v
      rw [HL.out] at h1
      exact fun W' t => box_apart HA1.out hin h1.1 (h1.2 h1.1) t
    clear hin s1 C0 C1 C2 C3
    generalize enterI 0 0 n 0 v = L at *
    obtain ⟨n9, hn9⟩ : ∃ n9, n9 = L.length := ⟨_, rfl⟩
    have HN9 : Hid _ := hn9
    rw [← hn9]
    clear hn9
    go_wp2_with fail
    go_region
    all_goals
      go_wp2
      have hb2 := ((HA1.out.set0 5).set1 0).set2 v
      obtain ⟨k0', k1', k2'⟩ := hb2.cells
      refine bodyPost_ret (v := .tuple #[.slice ao n9 cap, .agg #[.int .u8 5, .int .i64 0, .int .u64 v], .int .i64 0]) (by simp [results, Tryd.results17, go_sem, k0', k1', k2']) rfl ?_
      have ht : Touch w1 (((w1.setCell ⟨w.heap.size, 0, none⟩ (.int .u8 5)).setCell ⟨w.heap.size, 1, none⟩ (.int .i64 0)).setCell ⟨w.heap.size, 2, none⟩ (.int .u64 v)) [w.heap.size] := (((Touch.refl _ _).setCell (.inl (by simp)) _).setCell (.inl (by simp)) _).setCell (.inl (by simp)) _
      unfold FOneP
      rw [HL.out, HV.out]
      exact ⟨ao, cap, by rw [HN9.out]; rfl, HIN.out _ ht.drew, (HT1.out.trans ht (fun x hx => .inr (by simp at hx; omega))).drew⟩
  · go_wp2_with fail
    have ta := HTA.out 6 0
    have ba := HA.out 6 0
    have bb := HB.out 6 0
    generalize ((w.alloc (.cells #[.int .u8 0, .int .i64 0, .int .u64 0] 36)).alloc (.cells #[.int .u8 6, .int .i64 0, .int .u64 0] 36)) = Q at *
    have HTA' : Hid _ := ta
    have HA' : Hid _ := ba
    have HB' : Hid _ := bb
    clear ta ba bb HTA HA HB
    refine (C1.out _ HTA'.out).out.mono ?_
    rintro e w1 ⟨ao, cap, rfl, hin, s1⟩
    have HT1 : Hid (Touch w w1 []) := HTA'.out.trans s1 (by simp)
    obtain ⟨a0, a1, a2⟩ := (HA'.out.touch s1 (by simp)).cells
    obtain ⟨b0, b1, b2⟩ := (HB'.out.touch s1 (by simp)).cells
    have f0 := (HA'.out.touch s1 (by simp)).fr 0
    have f1 := (HA'.out.touch s1 (by simp)).fr 1
    have f2 := (HA'.out.touch s1 (by simp)).fr 2
    have HA1 : Hid _ := HA'.out.touch s1 (by simp)
    have HL : Hid (foneL 1 n v = takeI 0 0 n 0 0) := by show _ = _; unfold foneL; simp
    have HV : Hid (foneV 1 v = 0) := by show _ = _; unfold foneV; simp
    have HIN : Hid (∀ W', Touch w1 W' [w.heap.size] → InsIn W' ao (takeI 0 0 n 0 0).length cap (takeI 0 0 n 0 0)) := by
      have h1 := fone_first 1 n v
      rw [HL.out] at h1
      exact fun W' t => box_apart HA1.out hin h1.1 (h1.2 h1.1) t
    clear hin s1 C0 C1 C2 C3
    generalize takeI 0 0 n 0 0 = L at *
    obtain ⟨n9, hn9⟩ : ∃ n9, n9 = L.length := ⟨_, rfl⟩
    have HN9 : Hid _ := hn9
    rw [← hn9]
    clear hn9
    go_wp2_with fail
    go_region
    all_goals
      go_wp2
      have hb2 := ((HA1.out.set0 6).set1 0).set2 0
      obtain ⟨k0', k1', k2'⟩ := hb2.cells
      refine bodyPost_ret (v := .tuple #[.slice ao n9 cap, .agg #[.int .u8 6, .int .i64 0, .int .u64 0], .int .i64 0]) (by simp [results, Tryd.results17, go_sem, k0', k1', k2']) rfl ?_
      have ht : Touch w1 (((w1.setCell ⟨w.heap.size, 0, none⟩ (.int .u8 6)).setCell ⟨w.heap.size, 1, none⟩ (.int .i64 0)).setCell ⟨w.heap.size, 2, none⟩ (.int .u64 0)) [w.heap.size] := (((Touch.refl _ _).setCell (.inl (by simp)) _).setCell (.inl (by simp)) _).setCell (.inl (by simp)) _
      unfold FOneP
      rw [HL.out, HV.out]
      exact ⟨ao, cap, by rw [HN9.out]; rfl, HIN.out _ ht.drew, (HT1.out.trans ht (fun x hx => .inr (by simp at hx; omega))).drew⟩
  · go_wp2_with fail
    have ta := HTA.out 7 0
    have ba := HA.out 7 0
    have bb := HB.out 7 0
    generalize ((w.alloc (.cells #[.int .u8 0, .int .i64 0, .int .u64 0] 36)).alloc (.cells #[.int .u8 7, .int .i64 0, .int .u64 0] 36)) = Q at *
    have HTA' : Hid _ := ta
    have HA' : Hid _ := ba
    have HB' : Hid _ := bb
    clear ta ba bb HTA HA HB
    refine (C2.out _ HTA'.out).out.mono ?_
    rintro e w1 ⟨ao, cap, rfl, hin, s1⟩
    have HT1 : Hid (Touch w w1 []) := HTA'.out.trans s1 (by simp)
    obtain ⟨a0, a1, a2⟩ := (HA'.out.touch s1 (by simp)).cells
    obtain ⟨b0, b1, b2⟩ := (HB'.out.touch s1 (by simp)).cells
    have f0 := (HA'.out.touch s1 (by simp)).fr 0
    have f1 := (HA'.out.touch s1 (by simp)).fr 1
    have f2 := (HA'.out.touch s1 (by simp)).fr 2
    have HA1 : Hid _ := HA'.out.touch s1 (by simp)
    have HL : Hid (foneL 2 n v = arriveI 0 0 n 0 0) := by show _ = _; unfold foneL; simp
    have HV : Hid (foneV 2 v = 0) := by show _ = _; unfold foneV; simp
    have HIN : Hid (∀ W', Touch w1 W' [w.heap.size] → InsIn W' ao (arriveI 0 0 n 0 0).length cap (arriveI 0 0 n 0 0)) := by
      have h1 := fone_first 2 n v
      rw [HL.out] at h1
      exact fun W' t => box_apart HA1.out hin h1.1 (h1.2 h1.1) t
    clear hin s1 C0 C1 C2 C3
    generalize arriveI 0 0 n 0 0 = L at *
    obtain ⟨n9, hn9⟩ : ∃ n9, n9 = L.length := ⟨_, rfl⟩
    have HN9 : Hid _ := hn9
    rw [← hn9]
    clear hn9
    go_wp2_with fail
    go_region
    all_goals
      go_wp2
      have hb2 := ((HA1.out.set0 7).set1 0).set2 0
      obtain ⟨k0', k1', k2'⟩ := hb2.cells
      refine bodyPost_ret (v := .tuple #[.slice ao n9 cap, .agg #[.int .u8 7, .int .i64 0, .int .u64 0], .int .i64 0]) (by simp [results, Tryd.results17, go_sem, k0', k1', k2']) rfl ?_
      have ht : Touch w1 (((w1.setCell ⟨w.heap.size, 0, none⟩ (.int .u8 7)).setCell ⟨w.heap.size, 1, none⟩ (.int .i64 0)).setCell ⟨w.heap.size, 2, none⟩ (.int .u64 0)) [w.heap.size] := (((Touch.refl _ _).setCell (.inl (by simp)) _).setCell (.inl (by simp)) _).setCell (.inl (by simp)) _
      unfold FOneP
      rw [HL.out, HV.out]
      exact ⟨ao, cap, by rw [HN9.out]; rfl, HIN.out _ ht.drew, (HT1.out.trans ht (fun x hx => .inr (by simp at hx; omega))).drew⟩
  · go_wp2_with fail
    have ta := HTA.out 8 v
    have ba := HA.out 8 v
    have bb := HB.out 8 v
    generalize ((w.alloc (.cells #[.int .u8 0, .int .i64 0, .int .u64 0] 36)).alloc (.cells #[.int .u8 8, .int .i64 0, .int .u64 v] 36)) = Q at *
    have HTA' : Hid _ := ta
    have HA' : Hid _ := ba
    have HB' : Hid _ := bb
    clear ta ba bb HTA HA HB
    refine (C3.out _ HTA'.out).out.mono ?_
    rintro e w1 ⟨ao, cap, rfl, hin, s1⟩
    have HT1 : Hid (Touch w w1 []) := HTA'.out.trans s1 (by simp)
    obtain ⟨a0, a1, a2⟩ := (HA'.out.touch s1 (by simp)).cells
    obtain ⟨b0, b1, b2⟩ := (HB'.out.touch s1 (by simp)).cells
    have f0 := (HA'.out.touch s1 (by simp)).fr 0
    have f1 := (HA'.out.touch s1 (by simp)).fr 1
    have f2 := (HA'.out.touch s1 (by simp)).fr 2
    have HA1 : Hid _ := HA'.out.touch s1 (by simp)
    have HL : Hid (foneL 3 n v = leaveI 0 0 0 2 0) := by show _ = _; unfold foneL; simp
    have HV : Hid (foneV 3 v = v) := by show _ = _; unfold foneV; simp
    have HIN : Hid (∀ W', Touch w1 W' [w.heap.size] → InsIn W' ao (leaveI 0 0 0 2 0).length cap (leaveI 0 0 0 2 0)) := by
      have h1 := fone_first 3 n v
      rw [HL.out] at h1
      exact fun W' t => box_apart HA1.out hin h1.1 (h1.2 h1.1) t
    clear hin s1 C0 C1 C2 C3
    generalize leaveI 0 0 0 2 0 = L at *
    obtain ⟨n9, hn9⟩ : ∃ n9, n9 = L.length := ⟨_, rfl⟩
    have HN9 : Hid _ := hn9
    rw [← hn9]
    clear hn9
    go_wp2_with fail
    go_region
    all_goals
      go_wp2
      have hb2 := ((HA1.out.set0 8).set1 0).set2 v
      obtain ⟨k0', k1', k2'⟩ := hb2.cells
      refine bodyPost_ret (v := .tuple #[.slice ao n9 cap, .agg #[.int .u8 8, .int .i64 0, .int .u64 v], .int .i64 0]) (by simp [results, Tryd.results17, go_sem, k0', k1', k2']) rfl ?_
      have ht : Touch w1 (((w1.setCell ⟨w.heap.size, 0, none⟩ (.int .u8 8)).setCell ⟨w.heap.size, 1, none⟩ (.int .i64 0)).setCell ⟨w.heap.size, 2, none⟩ (.int .u64 v)) [w.heap.size] := (((Touch.refl _ _).setCell (.inl (by simp)) _).setCell (.inl (by simp)) _).setCell (.inl (by simp)) _
      unfold FOneP
      rw [HL.out, HV.out]
      exact ⟨ao, cap, by rw [HN9.out]; rfl, HIN.out _ ht.drew, (HT1.out.trans ht (fun x hx => .inr (by simp at hx; omega))).drew⟩

end Go.Proofs.YtaebcigfinjeiaaDoor
