/-
  CodeForms, WALKED.
-/
import Derived.Test.YtminiabpeodjaaaDoorCdLive
import Derived.Test.YtminiabpeodjaaaDoorVfRRight
import Derived.Deep.RegionHeld3
namespace Go.Proofs.YtminiabpeodjaaaDoor
set_option linter.unusedVariables false
set_option linter.unusedSimpArgs false
open Go.RowKit
attribute [local go_sem] Oper.semAt_some

/-- At most 200 bytes of a text. -/
def shortS (s : ByteArray) : ByteArray := if 200 < s.size then s.extract 0 200 else s
theorem shortS_le (s : ByteArray) : (shortS s).size ≤ 200 := by
  unfold shortS
  split
  · rw [ByteArray.size_extract]; omega
  · omega
set_option maxRecDepth 100000 in
theorem short_any (s : ByteArray) (hs : s.size ≤ 9223372036854775807) (w : World) : Calls Tryd.prog 14 #[.string s] w fun e w' => e = .returned (.string (shortS s)) ∧ w = w' := by
  unfold shortS
  by_cases h : 200 < s.size
  · rw [if_pos h]
    have h1 : (200 : Int) < s.size := by omega
    have h2 : (200 : Int) ≤ s.size := by omega
    go_enter Tryd.func14, Tryd.ntmps14
    go_wp2
    go_ret
    exact ⟨rfl, rfl⟩
  · rw [if_neg h]
    have h1 : ¬ (200 : Int) < s.size := by omega
    go_enter Tryd.func14, Tryd.ntmps14
    go_wp2
    go_ret
    exact ⟨rfl, rfl⟩

theorem byK_int (x : List UInt8) : ∃ k : Int, (byK 29 x).getD (.int .u8 0) = .int .u8 k := by
  have : ∀ n, n ≤ 29 → ∀ v, byK n x = some v → ∃ k : Int, v = .int .u8 k := by
    intro n
    induction n with
    | zero => intro _ v hv; simp [byK] at hv
    | succ n ih =>
      intro hn v hv
      rw [byK_succ] at hv
      unfold updS at hv
      split at hv
      · simp at hv; exact ⟨n, hv.symm⟩
      · exact ih (by omega) v hv
  cases h : byK 29 x with
  | none => exact ⟨0, rfl⟩
  | some v => obtain ⟨k, rfl⟩ := this 29 (Nat.le_refl _) v h; exact ⟨k, rfl⟩

set_option maxRecDepth 100000 in
set_option maxHeartbeats 2000000 in
theorem forms_any {w : World} (h : Wds w) (i : InsD) (hw : i.Wf) (s : ByteArray) (hs : s.size ≤ 9223372036854775807) :
    Calls Tryd.prog 3 #[i.v, .string s] w fun e w' => e = .returned (.bool true) ∧ Touch w w' [] := by
  obtain ⟨o, a, v⟩ := i
  have hwo := hw.op
  simp only at hwo
  have tB : Touch w (w.alloc (.cells #[.int .u8 o, .int .i64 a, .int .u64 v] 26)) [] := (Touch.refl w []).alloc _
  have eB : (w.alloc (.cells #[.int .u8 o, .int .i64 a, .int .u64 v] 26)).heap[w.heap.size]? = some (.cells #[.int .u8 o, .int .i64 a, .int .u64 v] 26 (0, 0)) := heap_alloc_new w _
  generalize hQ : w.alloc (.cells #[.int .u8 o, .int .i64 a, .int .u64 v] 26) = Q at *
  have HQ : Hid _ := hQ
  have hbQ : w.heap.size < Q.heap.size := lt_of_heap eB
  have HS : Hid (∀ W, Touch Q W [] → W.cell? ⟨w.heap.size, 0, none⟩ = some (.int .u8 o) ∧ W.cell? ⟨w.heap.size, 1, none⟩ = some (.int .i64 a) ∧ W.cell? ⟨w.heap.size, 2, none⟩ = some (.int .u64 v)) := fun W t => by
    have hb := (t.block w.heap.size hbQ (by simp)).trans eB
    exact ⟨by unfold World.cell?; rw [hb]; rfl, by unfold World.cell?; rw [hb]; rfl, by unfold World.cell?; rw [hb]; rfl⟩
  have HTB : Hid _ := tB
  obtain ⟨k, hk⟩ := byK_int (shortS s).data.toList
  have HWD : Hid (∀ W, Touch Q W [] → Wds W) := fun W t => h.touch (tB.trans t (by simp)) (by simp)
  have HRW : Hid (∀ W, Touch Q W [] → HidC Tryd.prog 13 #[.string (shortS s)] W fun e w' => e = .returned (.tuple #[.int .u8 k, .bool (byK 29 (shortS s).data.toList).isSome]) ∧ Touch W w' []) := fun W t => ⟨by
    have q := readWord_any (HWD.out W t) (shortS s) (by have := shortS_le s; unfold maxLen; omega)
    rw [hk] at q
    exact q⟩
  have HRR : Hid (∀ W, HidC Tryd.prog 15 #[.string (shortS s)] W fun e w' => e = .returned (.tuple #[.int .u8 k, .bool (byK 29 (shortS s).data.toList).isSome]) ∧ Touch W w' []) := fun W => ⟨by
    have q := rreadWord_any (shortS s) W
    rw [hk] at q
    exact q⟩
  have HL : Hid (∀ W, Touch Q W [] → HidC Tryd.prog 16 #[] W fun e w' => e = .returned (.bool true) ∧ Touch W w' []) := fun W t => ⟨live_any (HWD.out W t)⟩
  have HR : Hid (∀ W, HidC Tryd.prog 17 #[.agg #[.int .u8 o, .int .i64 a, .int .u64 v]] W fun e w' => e = .returned (.bool (rightI ⟨o, a, v⟩)) ∧ Touch W w' []) := fun W => ⟨cright_any ⟨o, a, v⟩ W⟩
  have HRF : Hid (∀ W, HidC Tryd.prog 18 #[.agg #[.int .u8 o, .int .i64 a, .int .u64 v]] W fun e w' => e = .returned (.bool (rightI ⟨o, a, v⟩)) ∧ Touch W w' []) := fun W => ⟨rrightI_any ⟨o, a, v⟩ hw W⟩
  have HW : Hid (∀ W, Touch Q W [] → HidC Tryd.prog 19 #[.int .u8 o] W fun e w' => e = .returned (.string (wordP o)) ∧ W = w') := fun W t => ⟨word_any (HWD.out W t) o hwo.1 hwo.2⟩
  have HWR : Hid (∀ W, HidC Tryd.prog 20 #[.int .u8 o] W fun e w' => e = .returned (.string (wordP o)) ∧ Touch W w' []) := fun W => ⟨rword_any o hwo.1 hwo.2 W⟩
  have HU : Hid (∀ W, HidC Tryd.prog 9 #[.int .u8 o] W fun e w' => e = .returned (.tuple #[.bool (argP o), .bool (valP o)]) ∧ W = w') := fun W => ⟨uses_any o W⟩
  have HUR : Hid (∀ W, HidC Tryd.prog 10 #[.int .u8 o] W fun e w' => e = .returned (.tuple #[.bool (argP o), .bool (valP o)]) ∧ W = w') := fun W => ⟨ruses_any o W⟩
  have HE : Hid (∀ W, HidC Tryd.prog 11 #[.int .u8 o] W fun e w' => e = .returned (.tuple #[.int .i64 (popV o), .int .i64 (pushV o)]) ∧ W = w') := fun W => ⟨eff_any o W⟩
  have HER : Hid (∀ W, HidC Tryd.prog 12 #[.int .u8 o] W fun e w' => e = .returned (.tuple #[.int .i64 (popV o), .int .i64 (pushV o)]) ∧ W = w') := fun W => ⟨reff_any o W⟩
  have HSH : Hid (∀ W, HidC Tryd.prog 14 #[.string s] W fun e w' => e = .returned (.string (shortS s)) ∧ W = w') := fun W => ⟨short_any s hs W⟩
  generalize shortS s = t at *
  generalize (byK 29 t.data.toList).isSome = ok at *
  generalize rightI ⟨o, a, v⟩ = ri at *
  generalize wordP o = wd at *
  generalize argP o = ap at *
  generalize valP o = vp at *
  generalize popV o = po at *
  generalize pushV o = pu at *
  obtain ⟨c0, c1, c2⟩ := HS.out Q (Touch.refl _ _)
  clear h hw hwo tB eB hbQ hk HWD hs hQ
  go_enter Tryd.func3, Tryd.ntmps3
  go_wp2_with fail
  rw [HQ.out]
  clear HQ
  refine (HU.out _).out.mono ?_
  rintro e _ ⟨rfl, rfl⟩
  clear HU
  go_wp2_with fail
  refine (HUR.out _).out.mono ?_
  rintro e _ ⟨rfl, rfl⟩
  clear HUR
  go_wp2_with fail
  refine (HE.out _).out.mono ?_
  rintro e _ ⟨rfl, rfl⟩
  clear HE
  go_wp2_with fail
  refine (HER.out _).out.mono ?_
  rintro e _ ⟨rfl, rfl⟩
  clear HER
  go_wp2_with fail
  refine (HSH.out _).out.mono ?_
  rintro e _ ⟨rfl, rfl⟩
  go_wp2_with fail
  refine (HRW.out _ (Touch.refl _ _)).out.mono ?_
  rintro e w1 ⟨rfl, t1⟩
  clear HRW c0 c1 c2
  go_wp2_with fail
  refine (HSH.out _).out.mono ?_
  rintro e _ ⟨rfl, rfl⟩
  clear HSH
  go_wp2_with fail
  refine (HRR.out _).out.mono ?_
  rintro e w2 ⟨rfl, t2'⟩
  clear HRR
  have t2 : Touch Q w2 [] := t1.trans t2' (by simp)
  clear t1 t2'
  have hd : Touch Q w2.drew [] := t2.drew
  go_wp2_with fail
  go_region_held3 (fun w' => w'.cell? ⟨w.heap.size, 0, none⟩ = some (.int .u8 o) ∧ w'.cell? ⟨w.heap.size, 1, none⟩ = some (.int .i64 a) ∧ w'.cell? ⟨w.heap.size, 2, none⟩ = some (.int .u64 v)) ((first | exact HS.out _ hd | exact HS.out _ t3 | exact HS.out _ t4 | exact HS.out _ t5 | exact HS.out _ t6)) ((first
    | (go_at_call 16; refine (HL.out _ hd).out.mono ?_; rintro e w3 ⟨rfl, t3'⟩; have t3 : Touch Q w3 [] := hd.trans t3' (by simp))
    | (go_at_call 17; refine (HR.out _).out.mono ?_; rintro e w4 ⟨rfl, t4'⟩; have t4 : Touch Q w4 [] := t3.trans t4' (by simp))
    | (go_at_call 18; refine (HRF.out _).out.mono ?_; rintro e w5 ⟨rfl, t5'⟩; have t5 : Touch Q w5 [] := t4.trans t5' (by simp))
    | (go_at_call 19; refine (HW.out _ t5).out.mono ?_; rintro e _ ⟨rfl, rfl⟩)
    | (go_at_call 20; refine (HWR.out _).out.mono ?_; rintro e w6 ⟨rfl, t6'⟩; have t6 : Touch Q w6 [] := t5.trans t6' (by simp))))
  go_wp2
  go_ret
  exact ⟨rfl, HTB.out.trans t6 (by simp)⟩

end Go.Proofs.YtminiabpeodjaaaDoor
