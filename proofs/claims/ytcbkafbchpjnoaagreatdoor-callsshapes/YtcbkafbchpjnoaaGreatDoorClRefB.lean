/-
  The document's block of a call BY ITS CONTRACT. Written by mkclr2.py.
-/
import Derived.Test.YtcbkafbchpjnoaaGreatDoorClRef
namespace Go.Proofs.YtcbkafbchpjnoaaGreatDoor
set_option linter.unusedVariables false
set_option linter.unusedSimpArgs false
open Go.RowKit
attribute [local go_sem] Oper.semAt_some

set_option maxRecDepth 100000 in
set_option maxHeartbeats 2000000 in
theorem rblk_8 (w : World) (a : Int) (ha : 0 ≤ a ∧ a ≤ 64) (n t u v : Int) (h : CkOk n t ⟨8, u, v⟩) :
    Calls Tryz.prog 33 #[.int .i64 a, .int .i64 n, .int .i64 t, .agg #[.int .u8 8, .int .i64 u, .int .u64 v]] w (LkP w (rbE a ⟨8, u, v⟩) (rbL n t a ⟨8, u, v⟩)) := by
  have hv := h.hv
  simp only at hv
  obtain ⟨XW, hXW⟩ : ∃ W, W = w.alloc (.cells #[.int .u8 8, .int .i64 u, .int .u64 v] 52) := ⟨_, rfl⟩
  have hbx : BoxK XW w.heap.size 8 u v := by rw [hXW]; exact BoxK.new w 8 u v
  have tW : Touch w XW [] := by rw [hXW]; exact (Touch.refl _ _).alloc _
  have tD : Touch w XW.drew [] := tW.drew
  have hbD : BoxK XW.drew w.heap.size 8 u v := hbx.touch (Touch.refl XW []).drew (by simp)
  have hwf : ∀ i ∈ [(⟨1, 0, v⟩ : InsD), insO 3 0], i.Wf := by
    intro i hi
    simp only [List.mem_cons, List.not_mem_nil, or_false] at hi
    rcases hi with rfl | rfl
    · exact ⟨⟨by show (0 : Int) ≤ 1; omega, by show (1 : Int) ≤ 255; omega⟩, ⟨by show (-9223372036854775808 : Int) ≤ 0; omega, by show (0 : Int) ≤ 9223372036854775807; omega⟩, hv⟩
    · exact insO_wf (by omega) (by omega) (by omega) (by omega)
  have HS1 : Hid (∀ w2, Touch XW.drew w2 [] → w2.cell? ⟨w.heap.size, 0, none⟩ = some (.int .u8 8) ∧ w2.cell? ⟨w.heap.size, 1, none⟩ = some (.int .i64 u) ∧ w2.cell? ⟨w.heap.size, 2, none⟩ = some (.int .u64 v) ∧ Hid ((w2.alloc (.cells #[.int .u8 1, .int .i64 0, .int .u64 v, .int .u8 3, .int .i64 0, .int .u64 0] 78)).cell? ⟨w.heap.size, 0, none⟩ = some (.int .u8 8) ∧ (w2.alloc (.cells #[.int .u8 1, .int .i64 0, .int .u64 v, .int .u8 3, .int .i64 0, .int .u64 0] 78)).cell? ⟨w.heap.size, 1, none⟩ = some (.int .i64 u) ∧ (w2.alloc (.cells #[.int .u8 1, .int .i64 0, .int .u64 v, .int .u8 3, .int .i64 0, .int .u64 0] 78)).cell? ⟨w.heap.size, 2, none⟩ = some (.int .u64 v)) ∧ Hid (insOwn (w2.alloc (.cells #[.int .u8 1, .int .i64 0, .int .u64 v, .int .u8 3, .int .i64 0, .int .u64 0] 78)) w.heap.size (.slice (some ⟨w2.heap.size, 0, none⟩) 2 2) [⟨1, 0, v⟩, insO 3 0] ∧ Touch w (w2.alloc (.cells #[.int .u8 1, .int .i64 0, .int .u64 v, .int .u8 3, .int .i64 0, .int .u64 0] 78)) [])) := by
    intro w2 t2
    have hb := hbD.touch t2 (by simp)
    have tA : Touch w2 (w2.alloc (.cells #[.int .u8 1, .int .i64 0, .int .u64 v, .int .u8 3, .int .i64 0, .int .u64 0] 78)) [] := (Touch.refl _ _).alloc _
    have hb5 := hb.touch tA (by simp)
    obtain ⟨y0, y1, y2⟩ := hb.cells
    obtain ⟨z0, z1, z2⟩ := hb5.cells
    have tt : Touch w w2 [] := tD.trans t2 (by simp)
    exact ⟨y0, y1, y2, ⟨z0, z1, z2⟩, fllit tt [⟨1, 0, v⟩, insO 3 0] _ 2 rfl rfl (by omega), tt.trans tA (by simp)⟩
  have HWF : Hid _ := hwf
  obtain ⟨b0, b1, b2⟩ := hbx.cells
  have HRE : Hid (rbE a ⟨8, u, v⟩ = if a > 54 then 4 else 0) := by
    show _ = _
    unfold rbE
    rw [show (ahdC ⟨8, u, v⟩).length = 2 from rfl, show lenC 8 = 8 from rfl]
    by_cases hq : a > 54
    · rw [if_pos hq, if_pos (by omega)]
    · rw [if_neg hq, if_neg (by omega)]
  have HRL : Hid (rbL n t a ⟨8, u, v⟩ = [⟨1, 0, v⟩, insO 3 0] ++ leaveI (a + 2) t 0 0 0) := rfl
  have HLV : Hid (a ≤ 62 → ∀ W, HidC Tryz.prog 63 #[.int .i64 (a + 2), .int .i64 t, .int .i64 0] W (LkP W (blkCE (a + 2) 8) (leaveI (a + 2) t 0 0 0))) := by
    intro h62 W
    have := rleave_any (a + 2) t 0 W
    rw [blkE_8 (a + 2) (by omega) n t u v h] at this
    exact ⟨this⟩
  have HLL : Hid ((leaveI (a + 2) t 0 0 0).length = 8) := rfl
  generalize rbE a ⟨8, u, v⟩ = E at *
  generalize rbL n t a ⟨8, u, v⟩ = RL at *
  generalize leaveI (a + 2) t 0 0 0 = LV at *
  have hw2 : IntKind.i64.wrap (a + 2) = a + 2 := by rw [IntKind.wrap_i64]; omega
  clear tW tD hbD hbx hwf h hv
  go_enter Tryz.func33, Tryz.ntmps33
  go_wp2_with fail
  simp only [← hXW]
  clear hXW
  obtain ⟨b, hbb⟩ : ∃ b, b = w.heap.size := ⟨_, rfl⟩
  have HBB : Hid _ := hbb
  rw [← hbb]
  simp only [← hbb] at HS1 b0 b1 b2
  clear hbb

  refine wp_region_held_drew (S := (fun w' => w'.cell? ⟨b, 0, none⟩ = some (.int .u8 8) ∧ w'.cell? ⟨b, 1, none⟩ = some (.int .i64 u) ∧ w'.cell? ⟨b, 2, none⟩ = some (.int .u64 v))) (by kernel_rfl) ⟨b0, b1, b2⟩ (fun hHeld => ?_)
  refine wpAnyH_take (i := 0) (v := .pointer (some ⟨b, 2, none⟩)) rfl (by kernel_rfl) (by kernel_rfl) (by kernel_rfl) (fun _ _ _ h => h) (Or.inl ⟨by rfl, ?_⟩) hHeld ?_
  · intro w' hSw
    try simp only [Act.put, List.getElem_toArray, List.getElem_cons_succ, List.getElem_cons_zero, List.setIfInBounds_toArray, List.set_cons_zero, List.set_cons_succ]
    go_simp
  try simp only [Act.put, List.getElem_toArray, List.getElem_cons_succ, List.getElem_cons_zero, List.setIfInBounds_toArray, List.set_cons_zero, List.set_cons_succ]
  refine wpAnyH_take (i := 1) (v := .int .u64 v) rfl (by kernel_rfl) (by kernel_rfl) (by kernel_rfl) (fun _ _ _ h => h) (Or.inl ⟨by rfl, ?_⟩) hHeld ?_
  · intro w' hSw
    try simp only [Act.put, List.getElem_toArray, List.getElem_cons_succ, List.getElem_cons_zero, List.setIfInBounds_toArray, List.set_cons_zero, List.set_cons_succ]
    obtain ⟨s0, s1, s2⟩ := hSw; go_simp
  try simp only [Act.put, List.getElem_toArray, List.getElem_cons_succ, List.getElem_cons_zero, List.setIfInBounds_toArray, List.set_cons_zero, List.set_cons_succ]
  refine wpAnyH_take (i := 2) (v := .agg #[.int .u8 1, .int .i64 0, .int .u64 v]) rfl (by kernel_rfl) (by kernel_rfl) (by kernel_rfl) (fun _ _ _ h => h) (Or.inl ⟨by rfl, ?_⟩) hHeld ?_
  · intro w' hSw
    try simp only [Act.put, List.getElem_toArray, List.getElem_cons_succ, List.getElem_cons_zero, List.setIfInBounds_toArray, List.set_cons_zero, List.set_cons_succ]
    go_simp
  try simp only [Act.put, List.getElem_toArray, List.getElem_cons_succ, List.getElem_cons_zero, List.setIfInBounds_toArray, List.set_cons_zero, List.set_cons_succ]
  clear hHeld
  refine wpAnyH_ready (rs := [3]) (by kernel_rfl) (by simp) (AllReadyH.cons rfl (fun K hK => ?_) AllReadyH.nil)
  rw [if_pos (by rfl)]
  go_wp2_with fail
  refine (rO_any _ _ _).mono ?_
  rintro e w2 ⟨rfl, t2⟩
  obtain ⟨g10, g11, g12, HLI, HNX⟩ := HS1.out w2 t2
  clear t2
  refine hK.out _ _ ⟨g10, g11, g12⟩ (fun hHeld => ?_)
  clear hK
  try simp only [Act.put, List.getElem_toArray, List.getElem_cons_succ, List.getElem_cons_zero, List.setIfInBounds_toArray, List.set_cons_zero, List.set_cons_succ]
  clear hHeld
  refine wpAnyH_ready (rs := [4]) (by kernel_rfl) (by simp) (AllReadyH.cons rfl (fun K hK => ?_) AllReadyH.nil)
  rw [if_pos (by rfl)]
  go_wp2_with fail
  obtain ⟨g20, g21, g22⟩ := HLI.out
  refine hK.out _ _ ⟨g20, g21, g22⟩ (fun hHeld => ?_)
  clear hK
  try simp only [Act.put, List.getElem_toArray, List.getElem_cons_succ, List.getElem_cons_zero, List.setIfInBounds_toArray, List.set_cons_zero, List.set_cons_succ]
  refine wpAnyH_take (i := 5) (v := .slice (some ⟨w2.heap.size, 0, none⟩) 2 2) rfl (by kernel_rfl) (by kernel_rfl) (by kernel_rfl) (fun _ _ _ h => h) (Or.inl ⟨by rfl, ?_⟩) hHeld ?_
  · intro w' hSw
    try simp only [Act.put, List.getElem_toArray, List.getElem_cons_succ, List.getElem_cons_zero, List.setIfInBounds_toArray, List.set_cons_zero, List.set_cons_succ]
    go_simp
  try simp only [Act.put, List.getElem_toArray, List.getElem_cons_succ, List.getElem_cons_zero, List.setIfInBounds_toArray, List.set_cons_zero, List.set_cons_succ]
  clear hHeld
  refine wpAnyH_done (by kernel_rfl) ?_ _
  obtain ⟨ho, ht⟩ := HNX.out
  have HO : Hid _ := ho
  have HT : Hid (Touch w _ []) := ht
  clear ho ht HNX HLI
  generalize (w2.alloc (.cells #[.int .u8 1, .int .i64 0, .int .u64 v, .int .u8 3, .int .i64 0, .int .u64 0] 78)) = W3 at *
  have HCE : Hid (blkCE (a + 2) 8 = if a > 54 then 4 else 0) := by
    show _ = _
    unfold blkCE
    rw [show lenC 8 = 8 from rfl]
    by_cases hq : a > 54
    · rw [if_pos hq, if_pos (by omega)]
    · rw [if_neg hq, if_neg (by omega)]
  generalize blkCE (a + 2) 8 = CE at *
  by_cases h62 : a > 62
  · have h62' : (62 : Int) < a := h62
    have HE : Hid (E = 4) := by show _ = _; rw [HRE.out, if_pos (by omega)]
    clear HRE HCE h62
    go_wp2
    exact bodyPost_ret (v := .tuple #[.slice none 0 0, .int .i64 4]) (by simp [results, Tryz.results33, go_sem]) rfl (.inr ⟨by rw [HE.out]; decide, by rw [HE.out], HT.out⟩)
  · have h62' : ¬ (62 : Int) < a := h62
    have HL := HLV.out (by omega) W3
    clear HLV h62
    go_wp2_with fail
    refine HL.out.mono ?_
    clear HL
    rintro e w4 (⟨h1, ao, cp, rfl, hi, t4⟩ | ⟨h1, rfl, t4⟩)
    · have HE : Hid (E = 0) := by show _ = _; rw [HRE.out, ← HCE.out]; exact h1
      have ho4 : insOwn w4 b (.slice (some ⟨w2.heap.size, 0, none⟩) 2 2) [⟨1, 0, v⟩, insO 3 0] := ownsRow_touch HO.out t4 (by simp)
      have HT4 : Touch w w4 [] := HT.out.trans t4 (by simp)
      obtain ⟨a5, c5, w5, r5, o5, t5⟩ := ins_app ho4 (by simp) (by have := World.ownsRow.lt ho4 w2.heap.size rfl; omega) hi (by rw [show LV.length = 8 from HLL.out]; omega) 25
      have hl8 : LV.length = 8 := HLL.out
      have HWL : Hid (∀ i ∈ RL, i.Wf) := by
        intro i hi'
        rw [show RL = _ from HRL.out] at hi'
        exact (List.mem_append.1 hi').elim (HWF.out i) (hi.wf i)
      have HIN : Hid (∃ a6 c6, a5 = a6 ∧ c5 = c6 ∧ InsIn w5 a6 RL.length c6 RL ∧ RL.length = 10) := by
        have e : RL = [⟨1, 0, v⟩, insO 3 0] ++ LV := HRL.out
        have el : RL.length = 10 := by rw [e, List.length_append, hl8]; rfl
        obtain ⟨a7, c7, e7, i7⟩ := insIn_of (l := RL) (by rw [e]; exact o5) HWL.out
        simp only [Value.slice.injEq] at e7
        obtain ⟨rfl, _, rfl⟩ := e7
        exact ⟨a5, c5, rfl, rfl, i7, el⟩
      have HT5 : Hid (Touch w w5 []) := HT4.trans t5 (fun x hx => .inr (by
        simp [Value.ownBlock] at hx
        subst hx
        have := (World.ownsRow.lt ho4 w2.heap.size rfl).1
        rwa [← (show b = w.heap.size from HBB.out)]))
      rw [hl8] at r5
      simp only [List.length_cons, List.length_nil, Nat.reduceAdd] at r5
      have HX : Hid _ := hl8
      rw [hl8]
      clear hi h1 t4 o5 t5 ho4 HT4 HRE HCE hl8 HLL
      go_wp2_with (at_builtin; refine Lib.wpList_append_run _ rfl (.tmp 90) (.tmp 91) _ _ rfl _ _ rfl rfl _ _ r5 ?_)
      obtain ⟨a6, c6, rfl, rfl, hin, hl⟩ := HIN.out
      exact bodyPost_ret (v := .tuple #[.slice a5 10 c5, .int .i64 0]) (by simp [results, Tryz.results33, go_sem]) rfl (.inl ⟨HE.out, a5, c5, by rw [hl], hin, HT5.out⟩)
    · have HE : Hid (E = CE) := by show _ = _; rw [HRE.out, ← HCE.out]
      have HT4 : Hid (Touch w w4 []) := HT.out.trans t4 (by simp)
      have H1 : Hid _ := h1
      have hce : (CE == 0) = false := by simpa using h1
      clear h1 t4 HRE HCE
      go_wp2
      exact bodyPost_ret (v := .tuple #[.slice none 0 0, .int .i64 CE]) (by simp [results, Tryz.results33, go_sem]) rfl (.inr ⟨by rw [HE.out]; exact H1.out, by rw [HE.out], HT4.out⟩)

end Go.Proofs.YtcbkafbchpjnoaaGreatDoor
