/-
  rowlocklaw24: live, few; CallsPrograms, WALKED. Written by mkcl4.py.
-/
import Derived.Test.YtcbkafbchpjnoaaGreatDoorClBegin
import Derived.Test.YtcbkafbchpjnoaaGreatDoorLkLaws
namespace Go.Proofs.YtcbkafbchpjnoaaGreatDoor
set_option linter.unusedVariables false
set_option linter.unusedSimpArgs false
open Go.RowKit
attribute [local go_sem] Oper.semAt_some

theorem clfew_any {ao : Option Addr} {m cap : Nat} (w : World) (hc : m ≤ cap) : Calls Tryz.prog 9 #[.slice ao m cap] w fun e w' => e = .returned (.slice ao (min m 12 : Nat) cap) ∧ w = w' := by
  by_cases h : m > 12
  · have h12 : (12 : Int) < m := by omega
    have hm : min m 12 = 12 := by omega
    have hcap : (12 : Int) ≤ cap := by omega
    rw [hm]
    go_enter Tryz.func9, Tryz.ntmps9
    go_wp2
    go_ret
    exact ⟨rfl, rfl⟩
  · have h12 : ¬ (12 : Int) < m := by omega
    have hm : min m 12 = m := by omega
    rw [hm]
    go_enter Tryz.func9, Tryz.ntmps9
    go_wp2
    go_ret
    exact ⟨rfl, rfl⟩
theorem CasIn.first {w : World} {ao : Option Addr} {m cap : Nat} {l : List CaD} (h : CasIn w ao m cap l) (j : Nat) (hj : j ≤ m) : CasIn w ao j cap (l.take j) := by
  have hl : (l.take j).length = j := by rw [List.length_take, ← h.len]; omega
  refine ⟨hl.symm, SRow.first h.row j (by rw [← h.len]; exact hj), by have := h.le; omega, fun c hc => h.wf c (List.mem_of_mem_take hc)⟩

set_option maxRecDepth 100000 in
set_option maxHeartbeats 1000000 in
theorem cllive_any {w : World} (hw : Wds w) : Calls Tryz.prog 11 #[] w fun e w' => e = .returned (.bool true) ∧ Touch w w' [] := by
  have hE : proE 1 0 0 0 [⟨1, 0, 0⟩, ⟨2, 0, 0⟩] = 0 := by decide +kernel
  have hL : (proL 0 0 [⟨1, 0, 0⟩, ⟨2, 0, 0⟩]).length = 22 := by decide +kernel
  have hO : ∀ h : 21 < (proL 0 0 [⟨1, 0, 0⟩, ⟨2, 0, 0⟩]).length, ((proL 0 0 [⟨1, 0, 0⟩, ⟨2, 0, 0⟩])[21]'h).op = 28 := by decide +kernel
  have tA : Touch w (w.alloc (.cells #[.int .u8 1, .int .i64 0, .int .u64 0, .int .u8 2, .int .i64 0, .int .u64 0] 52)) [] := (Touch.refl _ _).alloc _
  have hrow : CasIn (w.alloc (.cells #[.int .u8 1, .int .i64 0, .int .u64 0, .int .u8 2, .int .i64 0, .int .u64 0] 52)) (some ⟨w.heap.size, 0, none⟩) 2 2 [⟨1, 0, 0⟩, ⟨2, 0, 0⟩] := by
    refine ⟨rfl, ?_, Nat.le_refl _, ?_⟩
    · refine srow_of (cells := CaD.cells) (n := 3) (fun _ => rfl) (B := w.heap.size) (e := 52) ?_
      have h := World.ownsRow_lit (base := w.heap.size) (e := 52) (size := 3) w #[.int .u8 1, .int .i64 0, .int .u64 0, .int .u8 2, .int .i64 0, .int .u64 0] 2 (Nat.le_refl _) (by unfold maxLen; omega) rfl
      exact h
    · intro c hc
      simp only [List.mem_cons, List.not_mem_nil, or_false] at hc
      rcases hc with rfl | rfl
      · exact ⟨by simp, by simp, by unfold Wf64; simp⟩
      · exact ⟨by simp, by simp, by unfold Wf64; simp⟩
  have HC : Hid (HidC Tryz.prog 8 #[.int .u8 1, .int .i64 0, .int .i64 0, .int .i64 0, .slice (some ⟨w.heap.size, 0, none⟩) 2 2] (w.alloc (.cells #[.int .u8 1, .int .i64 0, .int .u64 0, .int .u8 2, .int .i64 0, .int .u64 0] 52)) (fun e w' => ∃ g off cap, e = .returned (.tuple #[.slice (some ⟨g, off, none⟩) 22 cap, .int .i64 0]) ∧ (∀ W, Touch w' W [] → W.cell? ⟨g, off + 63, none⟩ = some (.int .u8 28)) ∧ Touch w w' [])) := by
    refine ⟨(program_any (hw.touch tA (by simp)) 1 0 0 0 hrow (by omega)).mono ?_⟩
    intro e w' h
    rw [hE] at h
    rcases h with ⟨_, ao, cap, rfl, hin, t⟩ | ⟨h, _⟩
    · have h21 : 21 < (proL 0 0 [⟨1, 0, 0⟩, ⟨2, 0, 0⟩]).length := by rw [hL]; omega
      obtain ⟨g, off, rfl, d0, d1, d2⟩ := ins_at hin.row (Touch.refl w' []) (by simp) 21 h21
      rw [hO h21] at d0
      rw [hL]
      have hlt : g < w'.heap.size := World.block_lt_of_cell? w' _ d0
      exact ⟨g, off, cap, rfl, fun W tW => (tW.cell (p := ⟨g, off + 63, none⟩) hlt (by simp)).trans d0, tA.trans t (by simp)⟩
    · exact absurd rfl h
  have HB : Hid (∀ W, HidC Tryz.prog 13 #[.int .u8 3, .int .i64 2] W fun e w' => ∃ g, e = .returned (.tuple #[.slice (some ⟨g, 0, none⟩) 4 4, .int .i64 0]) ∧ Touch W w' []) := by
    intro W
    refine ⟨(begin_any 3 2 W).mono ?_⟩
    rintro e w' (⟨_, g, m, rfl, hm, _, _, t⟩ | ⟨h, _⟩)
    · have e4 : tvN 3 2 = 4 := by decide
      rw [e4] at hm
      obtain rfl : m = 4 := by omega
      exact ⟨g, rfl, t⟩
    · exact absurd h (by decide)
  have HT : Hid (∀ W, HidC Tryz.prog 17 #[.int .u8 4, .int .i64 3] W fun e w' => e = .returned (.int .i64 2) ∧ Touch W w' []) := fun W => ⟨tvars_any 4 3 W⟩
  clear hE hL hO tA hrow hw
  go_enter Tryz.func11, Tryz.ntmps11
  go_wp2_with fail
  refine HC.out.out.mono ?_
  clear HC
  rintro e w1 ⟨g, off, cap, rfl, hd, t1⟩
  have HD : Hid _ := hd
  have HT1 : Hid _ := t1
  clear hd t1
  go_wp2_with fail
  refine (HB.out _).out.mono ?_
  clear HB
  rintro e w2 ⟨g2, rfl, t2⟩
  have d0 := HD.out w2 t2
  have HT2 : Hid (Touch w w2 []) := HT1.out.trans t2 (by simp)
  clear HD HT1 t2
  go_wp2_with fail
  refine (HT.out _).out.mono ?_
  clear HT
  rintro e w3 ⟨rfl, t3⟩
  have HT3 : Hid (Touch w w3 []) := HT2.out.trans t3 (by simp)
  clear HT2 t3
  go_wp2
  go_ret
  exact ⟨rfl, HT3.out⟩

set_option maxRecDepth 100000 in
set_option maxHeartbeats 2000000 in
theorem callsprograms_any {w : World} (hw : Wds w) (k n t u : Int) {ao : Option Addr} {m cap : Nat} {l : List CaD} (hl : CasIn w ao m cap l) :
    Calls Tryz.prog 3 #[.int .u8 k, .agg #[.int .i64 n, .int .i64 t, .int .i64 u], .slice ao m cap] w fun e w' => e = .returned (.bool true) ∧ Touch w w' [] := by
  have hlen : (proL n t (l.take 12)).length ≤ 1000 := by
    unfold proL
    cases h : runC n t (l.take 12) [] with
    | none => simp
    | some P => have := runC_len n t _ _ _ h; simp; omega
  have hq : (lkL (proE k n t u (l.take 12)) (proL n t (l.take 12))).length ≤ 1000 := lkL_len hlen
  have hT : l.take (min m 12) = l.take 12 := by
    rw [hl.len]
    rcases Nat.le_total l.length 12 with h | h
    · rw [Nat.min_eq_left h, List.take_length, List.take_of_length_le h]
    · rw [Nat.min_eq_right h]
  have hF : CasIn w ao (min m 12) cap (l.take 12) := by rw [← hT]; exact hl.first _ (Nat.min_le_left _ _)
  obtain ⟨XW, hXW⟩ : ∃ W, W = w.alloc (.cells #[.int .i64 n, .int .i64 t, .int .i64 u] 23) := ⟨_, rfl⟩
  have tX : Touch w XW [] := by rw [hXW]; exact (Touch.refl _ _).alloc _
  have hb : XW.heap[w.heap.size]? = some (.cells #[.int .i64 n, .int .i64 t, .int .i64 u] 23 (0, 0)) := by rw [hXW]; exact heap_alloc_new w _
  have hbs : w.heap.size < XW.heap.size := lt_of_heap hb
  have HX : Hid (∀ W, Touch XW W [] → W.cell? ⟨w.heap.size, 0, none⟩ = some (.int .i64 n) ∧ W.cell? ⟨w.heap.size, 1, none⟩ = some (.int .i64 t) ∧ W.cell? ⟨w.heap.size, 2, none⟩ = some (.int .i64 u)) := fun W tw => by
    have h := (tw.block w.heap.size hbs (by simp)).trans hb
    unfold World.cell?
    rw [h]
    exact ⟨rfl, rfl, rfl⟩
  have HFEW : Hid (∀ W, HidC Tryz.prog 9 #[.slice ao m cap] W fun e w' => e = .returned (.slice ao (min m 12 : Nat) cap) ∧ W = w') := fun W => ⟨clfew_any W hl.le⟩
  have C1 : Hid (∀ W, Touch XW W [] → HidC Tryz.prog 8 #[.int .u8 k, .int .i64 n, .int .i64 t, .int .i64 u, .slice ao (min m 12 : Nat) cap] W (LkQ W (proE k n t u (l.take 12)) (lkL (proE k n t u (l.take 12)) (proL n t (l.take 12))).length (lkL (proE k n t u (l.take 12)) (proL n t (l.take 12))))) := fun W tw => ⟨(program_any (hw.touch (tX.trans tw (by simp)) (by simp)) k n t u (hF.keep (tX.trans tw (by simp))) (by omega)).mono fun _ _ h => h.q⟩
  have C2 : Hid (∀ W, Touch XW W [] → HidC Tryz.prog 10 #[.int .u8 k, .int .i64 n, .int .i64 t, .int .i64 u, .slice ao (min m 12 : Nat) cap] W (LkQ W (proE k n t u (l.take 12)) (lkL (proE k n t u (l.take 12)) (proL n t (l.take 12))).length (lkL (proE k n t u (l.take 12)) (proL n t (l.take 12))))) := fun W tw => ⟨(rprogram_any k n t u (hF.keep (tX.trans tw (by simp))) (by omega)).mono fun _ _ h => h.q⟩
  have HLV : Hid (∀ W, Touch XW W [] → HidC Tryz.prog 11 #[] W fun e w' => e = .returned (.bool true) ∧ Touch W w' []) := fun W tw => ⟨cllive_any (hw.touch (tX.trans tw (by simp)) (by simp))⟩
  have HTX : Hid _ := tX
  have HQ : Hid _ := hq
  clear hlen hq hT hF tX hb hbs hw hl
  generalize lkL (proE k n t u (l.take 12)) (proL n t (l.take 12)) = L at *
  generalize proE k n t u (l.take 12) = E at *
  obtain ⟨q, hq⟩ : ∃ q, q = L.length := ⟨_, rfl⟩
  rw [← hq] at C1 C2 HQ
  clear hq
  generalize min m 12 = m12 at *
  have HE : Hid (XW.cell? ⟨w.heap.size, 0, none⟩ = some (.int .i64 n) ∧ XW.cell? ⟨w.heap.size, 1, none⟩ = some (.int .i64 t) ∧ XW.cell? ⟨w.heap.size, 2, none⟩ = some (.int .i64 u)) := HX.out XW (Touch.refl _ _)
  have H1 : Hid (XW.drew.cell? ⟨w.heap.size, 0, none⟩ = some (.int .i64 n) ∧ XW.drew.cell? ⟨w.heap.size, 1, none⟩ = some (.int .i64 t) ∧ XW.drew.cell? ⟨w.heap.size, 2, none⟩ = some (.int .i64 u) ∧ Hid (Touch XW XW.drew []) ∧ Hid (HidC Tryz.prog 8 #[.int .u8 k, .int .i64 n, .int .i64 t, .int .i64 u, .slice ao m12 cap] XW.drew (LkQ XW.drew E q L))) := by
    have td : Touch XW XW.drew [] := (Touch.refl _ _).drew
    obtain ⟨y0, y1, y2⟩ := HX.out _ td
    exact ⟨y0, y1, y2, td, C1.out _ td⟩
  have HN1 : Hid (∀ w2 a p, Touch XW XW.drew [] → InsIn w2 a q p L → Touch XW.drew w2 [] → w2.cell? ⟨w.heap.size, 0, none⟩ = some (.int .i64 n) ∧ w2.cell? ⟨w.heap.size, 1, none⟩ = some (.int .i64 t) ∧ w2.cell? ⟨w.heap.size, 2, none⟩ = some (.int .i64 u) ∧ Hid (InsIn w2 a q p L) ∧ Hid (Touch XW w2 [])) := by
    intro w2 a p td hi t2
    have tt : Touch XW w2 [] := td.trans t2 (by simp)
    obtain ⟨y0, y1, y2⟩ := HX.out _ tt
    exact ⟨y0, y1, y2, hi, tt⟩
  have HG2 : Hid (∀ w2, Touch XW w2 [] → Hid (w2.drew.cell? ⟨w.heap.size, 0, none⟩ = some (.int .i64 n) ∧ w2.drew.cell? ⟨w.heap.size, 1, none⟩ = some (.int .i64 t) ∧ w2.drew.cell? ⟨w.heap.size, 2, none⟩ = some (.int .i64 u) ∧ Hid (Touch XW w2.drew []) ∧ Hid (HidC Tryz.prog 10 #[.int .u8 k, .int .i64 n, .int .i64 t, .int .i64 u, .slice ao m12 cap] w2.drew (LkQ w2.drew E q L)))) := by
    intro w2 t2
    have td : Touch XW w2.drew [] := t2.drew
    obtain ⟨y0, y1, y2⟩ := HX.out _ td
    exact ⟨y0, y1, y2, td, C2.out _ td⟩
  have HN2 : Hid (∀ w4 a p, ∀ {w3 : World}, Touch XW w3 [] → InsIn w4 a q p L → Touch w3 w4 [] → w4.cell? ⟨w.heap.size, 0, none⟩ = some (.int .i64 n) ∧ w4.cell? ⟨w.heap.size, 1, none⟩ = some (.int .i64 t) ∧ w4.cell? ⟨w.heap.size, 2, none⟩ = some (.int .i64 u) ∧ Hid (InsIn w4 a q p L) ∧ Hid (Touch XW w4 [])) := by
    intro w4 a p w3 td hi t2
    have tt : Touch XW w4 [] := td.trans t2 (by simp)
    obtain ⟨y0, y1, y2⟩ := HX.out _ tt
    exact ⟨y0, y1, y2, hi, tt⟩
  obtain ⟨b0, b1, b2⟩ := HE.out
  clear C1 C2 HX HE
  go_enter Tryz.func3, Tryz.ntmps3
  go_wp2_with fail
  simp only [← hXW]
  clear hXW
  generalize w.heap.size = b at *
  refine wp_region_held_drew (S := (fun w' => w'.cell? ⟨b, 0, none⟩ = some (.int .i64 n) ∧ w'.cell? ⟨b, 1, none⟩ = some (.int .i64 t) ∧ w'.cell? ⟨b, 2, none⟩ = some (.int .i64 u))) (by kernel_rfl) ⟨b0, b1, b2⟩ (fun hHeld => ?_)
  refine wpAnyH_take (i := 0) (v := .int .u8 k) rfl (by kernel_rfl) (by kernel_rfl) (by kernel_rfl) (fun _ _ _ h => h) (Or.inl ⟨by rfl, ?_⟩) hHeld ?_
  · intro w' hSw
    try simp only [Act.put, List.getElem_toArray, List.getElem_cons_succ, List.getElem_cons_zero, List.setIfInBounds_toArray, List.set_cons_zero, List.set_cons_succ]
    go_simp
  try simp only [Act.put, List.getElem_toArray, List.getElem_cons_succ, List.getElem_cons_zero, List.setIfInBounds_toArray, List.set_cons_zero, List.set_cons_succ]
  refine wpAnyH_take (i := 1) (v := .pointer (some ⟨b, 0, none⟩)) rfl (by kernel_rfl) (by kernel_rfl) (by kernel_rfl) (fun _ _ _ h => h) (Or.inl ⟨by rfl, ?_⟩) hHeld ?_
  · intro w' hSw
    try simp only [Act.put, List.getElem_toArray, List.getElem_cons_succ, List.getElem_cons_zero, List.setIfInBounds_toArray, List.set_cons_zero, List.set_cons_succ]
    go_simp
  try simp only [Act.put, List.getElem_toArray, List.getElem_cons_succ, List.getElem_cons_zero, List.setIfInBounds_toArray, List.set_cons_zero, List.set_cons_succ]
  refine wpAnyH_take (i := 2) (v := .int .i64 n) rfl (by kernel_rfl) (by kernel_rfl) (by kernel_rfl) (fun _ _ _ h => h) (Or.inl ⟨by rfl, ?_⟩) hHeld ?_
  · intro w' hSw
    try simp only [Act.put, List.getElem_toArray, List.getElem_cons_succ, List.getElem_cons_zero, List.setIfInBounds_toArray, List.set_cons_zero, List.set_cons_succ]
    obtain ⟨s0, s1, s2⟩ := hSw; go_simp
  try simp only [Act.put, List.getElem_toArray, List.getElem_cons_succ, List.getElem_cons_zero, List.setIfInBounds_toArray, List.set_cons_zero, List.set_cons_succ]
  refine wpAnyH_take (i := 3) (v := .pointer (some ⟨b, 1, none⟩)) rfl (by kernel_rfl) (by kernel_rfl) (by kernel_rfl) (fun _ _ _ h => h) (Or.inl ⟨by rfl, ?_⟩) hHeld ?_
  · intro w' hSw
    try simp only [Act.put, List.getElem_toArray, List.getElem_cons_succ, List.getElem_cons_zero, List.setIfInBounds_toArray, List.set_cons_zero, List.set_cons_succ]
    go_simp
  try simp only [Act.put, List.getElem_toArray, List.getElem_cons_succ, List.getElem_cons_zero, List.setIfInBounds_toArray, List.set_cons_zero, List.set_cons_succ]
  refine wpAnyH_take (i := 4) (v := .int .i64 t) rfl (by kernel_rfl) (by kernel_rfl) (by kernel_rfl) (fun _ _ _ h => h) (Or.inl ⟨by rfl, ?_⟩) hHeld ?_
  · intro w' hSw
    try simp only [Act.put, List.getElem_toArray, List.getElem_cons_succ, List.getElem_cons_zero, List.setIfInBounds_toArray, List.set_cons_zero, List.set_cons_succ]
    obtain ⟨s0, s1, s2⟩ := hSw; go_simp
  try simp only [Act.put, List.getElem_toArray, List.getElem_cons_succ, List.getElem_cons_zero, List.setIfInBounds_toArray, List.set_cons_zero, List.set_cons_succ]
  refine wpAnyH_take (i := 5) (v := .pointer (some ⟨b, 2, none⟩)) rfl (by kernel_rfl) (by kernel_rfl) (by kernel_rfl) (fun _ _ _ h => h) (Or.inl ⟨by rfl, ?_⟩) hHeld ?_
  · intro w' hSw
    try simp only [Act.put, List.getElem_toArray, List.getElem_cons_succ, List.getElem_cons_zero, List.setIfInBounds_toArray, List.set_cons_zero, List.set_cons_succ]
    go_simp
  try simp only [Act.put, List.getElem_toArray, List.getElem_cons_succ, List.getElem_cons_zero, List.setIfInBounds_toArray, List.set_cons_zero, List.set_cons_succ]
  refine wpAnyH_take (i := 6) (v := .int .i64 u) rfl (by kernel_rfl) (by kernel_rfl) (by kernel_rfl) (fun _ _ _ h => h) (Or.inl ⟨by rfl, ?_⟩) hHeld ?_
  · intro w' hSw
    try simp only [Act.put, List.getElem_toArray, List.getElem_cons_succ, List.getElem_cons_zero, List.setIfInBounds_toArray, List.set_cons_zero, List.set_cons_succ]
    obtain ⟨s0, s1, s2⟩ := hSw; go_simp
  try simp only [Act.put, List.getElem_toArray, List.getElem_cons_succ, List.getElem_cons_zero, List.setIfInBounds_toArray, List.set_cons_zero, List.set_cons_succ]
  refine wpAnyH_take (i := 7) (v := .slice ao m cap) rfl (by kernel_rfl) (by kernel_rfl) (by kernel_rfl) (fun _ _ _ h => h) (Or.inl ⟨by rfl, ?_⟩) hHeld ?_
  · intro w' hSw
    try simp only [Act.put, List.getElem_toArray, List.getElem_cons_succ, List.getElem_cons_zero, List.setIfInBounds_toArray, List.set_cons_zero, List.set_cons_succ]
    go_simp
  try simp only [Act.put, List.getElem_toArray, List.getElem_cons_succ, List.getElem_cons_zero, List.setIfInBounds_toArray, List.set_cons_zero, List.set_cons_succ]
  clear hHeld
  refine wpAnyH_ready (rs := [8]) (by kernel_rfl) (by simp) (AllReadyH.cons rfl (fun K hK => ?_) AllReadyH.nil)
  rw [if_pos (by rfl)]
  go_wp2_with fail
  refine (HFEW.out _).out.mono ?_
  rintro e _ ⟨rfl, rfl⟩
  obtain ⟨c0, c1, c2, HTx, HPC⟩ := H1.out
  refine hK.out _ _ ⟨c0, c1, c2⟩ (fun hHeld => ?_)
  clear hK
  try simp only [Act.put, List.getElem_toArray, List.getElem_cons_succ, List.getElem_cons_zero, List.setIfInBounds_toArray, List.set_cons_zero, List.set_cons_succ]
  clear hHeld
  refine wpAnyH_ready (rs := [9]) (by kernel_rfl) (by simp) (AllReadyH.cons rfl (fun K hK => ?_) AllReadyH.nil)
  rw [if_pos (by rfl)]
  go_wp2_with fail
  refine HPC.out.out.mono ?_
  clear HPC
  rintro e w2 ⟨a1, p1, rfl, i1, t1⟩
  obtain ⟨d0, d1, d2, HI1, HTw2⟩ := HN1.out w2 _ _ HTx.out i1 t1
  clear i1 t1 c0 c1 c2
  refine hK.out _ _ ⟨d0, d1, d2⟩ (fun hHeld => ?_)
  clear hK
  try simp only [Act.put, List.getElem_toArray, List.getElem_cons_succ, List.getElem_cons_zero, List.setIfInBounds_toArray, List.set_cons_zero, List.set_cons_succ]
  refine wpAnyH_take (i := 10) (v := .tuple #[.slice a1 q p1, .int .i64 E]) rfl (by kernel_rfl) (by kernel_rfl) (by kernel_rfl) (fun _ _ _ h => h) (Or.inl ⟨by rfl, ?_⟩) hHeld ?_
  · intro w' hSw
    try simp only [Act.put, List.getElem_toArray, List.getElem_cons_succ, List.getElem_cons_zero, List.setIfInBounds_toArray, List.set_cons_zero, List.set_cons_succ]
    go_simp
  try simp only [Act.put, List.getElem_toArray, List.getElem_cons_succ, List.getElem_cons_zero, List.setIfInBounds_toArray, List.set_cons_zero, List.set_cons_succ]
  refine wpAnyH_take (i := 11) (v := .slice a1 q p1) rfl (by kernel_rfl) (by kernel_rfl) (by kernel_rfl) (fun _ _ _ h => h) (Or.inl ⟨by rfl, ?_⟩) hHeld ?_
  · intro w' hSw
    try simp only [Act.put, List.getElem_toArray, List.getElem_cons_succ, List.getElem_cons_zero, List.setIfInBounds_toArray, List.set_cons_zero, List.set_cons_succ]
    go_simp
  try simp only [Act.put, List.getElem_toArray, List.getElem_cons_succ, List.getElem_cons_zero, List.setIfInBounds_toArray, List.set_cons_zero, List.set_cons_succ]
  refine wpAnyH_take (i := 12) (v := .int .i64 E) rfl (by kernel_rfl) (by kernel_rfl) (by kernel_rfl) (fun _ _ _ h => h) (Or.inl ⟨by rfl, ?_⟩) hHeld ?_
  · intro w' hSw
    try simp only [Act.put, List.getElem_toArray, List.getElem_cons_succ, List.getElem_cons_zero, List.setIfInBounds_toArray, List.set_cons_zero, List.set_cons_succ]
    go_simp
  try simp only [Act.put, List.getElem_toArray, List.getElem_cons_succ, List.getElem_cons_zero, List.setIfInBounds_toArray, List.set_cons_zero, List.set_cons_succ]
  refine wpAnyH_take (i := 13) (v := .slice a1 q p1) rfl (by kernel_rfl) (by kernel_rfl) (by kernel_rfl) (fun _ _ _ h => h) (Or.inl ⟨by rfl, ?_⟩) hHeld ?_
  · intro w' hSw
    try simp only [Act.put, List.getElem_toArray, List.getElem_cons_succ, List.getElem_cons_zero, List.setIfInBounds_toArray, List.set_cons_zero, List.set_cons_succ]
    go_simp
  try simp only [Act.put, List.getElem_toArray, List.getElem_cons_succ, List.getElem_cons_zero, List.setIfInBounds_toArray, List.set_cons_zero, List.set_cons_succ]
  refine wpAnyH_take (i := 14) (v := .int .i64 E) rfl (by kernel_rfl) (by kernel_rfl) (by kernel_rfl) (fun _ _ _ h => h) (Or.inl ⟨by rfl, ?_⟩) hHeld ?_
  · intro w' hSw
    try simp only [Act.put, List.getElem_toArray, List.getElem_cons_succ, List.getElem_cons_zero, List.setIfInBounds_toArray, List.set_cons_zero, List.set_cons_succ]
    go_simp
  try simp only [Act.put, List.getElem_toArray, List.getElem_cons_succ, List.getElem_cons_zero, List.setIfInBounds_toArray, List.set_cons_zero, List.set_cons_succ]
  clear hHeld
  refine wpAnyH_done (by kernel_rfl) ?_ _
  clear b0 b1 b2 H1 HN1
  have H2 := HG2.out w2 HTw2.out
  clear HG2
  go_wp2_with fail
  refine wp_region_held_drew (S := (fun w' => w'.cell? ⟨b, 0, none⟩ = some (.int .i64 n) ∧ w'.cell? ⟨b, 1, none⟩ = some (.int .i64 t) ∧ w'.cell? ⟨b, 2, none⟩ = some (.int .i64 u))) (by kernel_rfl) ⟨d0, d1, d2⟩ (fun hHeld => ?_)
  refine wpAnyH_take (i := 0) (v := .int .u8 k) rfl (by kernel_rfl) (by kernel_rfl) (by kernel_rfl) (fun _ _ _ h => h) (Or.inl ⟨by rfl, ?_⟩) hHeld ?_
  · intro w' hSw
    try simp only [Act.put, List.getElem_toArray, List.getElem_cons_succ, List.getElem_cons_zero, List.setIfInBounds_toArray, List.set_cons_zero, List.set_cons_succ]
    go_simp
  try simp only [Act.put, List.getElem_toArray, List.getElem_cons_succ, List.getElem_cons_zero, List.setIfInBounds_toArray, List.set_cons_zero, List.set_cons_succ]
  refine wpAnyH_take (i := 1) (v := .pointer (some ⟨b, 0, none⟩)) rfl (by kernel_rfl) (by kernel_rfl) (by kernel_rfl) (fun _ _ _ h => h) (Or.inl ⟨by rfl, ?_⟩) hHeld ?_
  · intro w' hSw
    try simp only [Act.put, List.getElem_toArray, List.getElem_cons_succ, List.getElem_cons_zero, List.setIfInBounds_toArray, List.set_cons_zero, List.set_cons_succ]
    go_simp
  try simp only [Act.put, List.getElem_toArray, List.getElem_cons_succ, List.getElem_cons_zero, List.setIfInBounds_toArray, List.set_cons_zero, List.set_cons_succ]
  refine wpAnyH_take (i := 2) (v := .int .i64 n) rfl (by kernel_rfl) (by kernel_rfl) (by kernel_rfl) (fun _ _ _ h => h) (Or.inl ⟨by rfl, ?_⟩) hHeld ?_
  · intro w' hSw
    try simp only [Act.put, List.getElem_toArray, List.getElem_cons_succ, List.getElem_cons_zero, List.setIfInBounds_toArray, List.set_cons_zero, List.set_cons_succ]
    obtain ⟨s0, s1, s2⟩ := hSw; go_simp
  try simp only [Act.put, List.getElem_toArray, List.getElem_cons_succ, List.getElem_cons_zero, List.setIfInBounds_toArray, List.set_cons_zero, List.set_cons_succ]
  refine wpAnyH_take (i := 3) (v := .pointer (some ⟨b, 1, none⟩)) rfl (by kernel_rfl) (by kernel_rfl) (by kernel_rfl) (fun _ _ _ h => h) (Or.inl ⟨by rfl, ?_⟩) hHeld ?_
  · intro w' hSw
    try simp only [Act.put, List.getElem_toArray, List.getElem_cons_succ, List.getElem_cons_zero, List.setIfInBounds_toArray, List.set_cons_zero, List.set_cons_succ]
    go_simp
  try simp only [Act.put, List.getElem_toArray, List.getElem_cons_succ, List.getElem_cons_zero, List.setIfInBounds_toArray, List.set_cons_zero, List.set_cons_succ]
  refine wpAnyH_take (i := 4) (v := .int .i64 t) rfl (by kernel_rfl) (by kernel_rfl) (by kernel_rfl) (fun _ _ _ h => h) (Or.inl ⟨by rfl, ?_⟩) hHeld ?_
  · intro w' hSw
    try simp only [Act.put, List.getElem_toArray, List.getElem_cons_succ, List.getElem_cons_zero, List.setIfInBounds_toArray, List.set_cons_zero, List.set_cons_succ]
    obtain ⟨s0, s1, s2⟩ := hSw; go_simp
  try simp only [Act.put, List.getElem_toArray, List.getElem_cons_succ, List.getElem_cons_zero, List.setIfInBounds_toArray, List.set_cons_zero, List.set_cons_succ]
  refine wpAnyH_take (i := 5) (v := .pointer (some ⟨b, 2, none⟩)) rfl (by kernel_rfl) (by kernel_rfl) (by kernel_rfl) (fun _ _ _ h => h) (Or.inl ⟨by rfl, ?_⟩) hHeld ?_
  · intro w' hSw
    try simp only [Act.put, List.getElem_toArray, List.getElem_cons_succ, List.getElem_cons_zero, List.setIfInBounds_toArray, List.set_cons_zero, List.set_cons_succ]
    go_simp
  try simp only [Act.put, List.getElem_toArray, List.getElem_cons_succ, List.getElem_cons_zero, List.setIfInBounds_toArray, List.set_cons_zero, List.set_cons_succ]
  refine wpAnyH_take (i := 6) (v := .int .i64 u) rfl (by kernel_rfl) (by kernel_rfl) (by kernel_rfl) (fun _ _ _ h => h) (Or.inl ⟨by rfl, ?_⟩) hHeld ?_
  · intro w' hSw
    try simp only [Act.put, List.getElem_toArray, List.getElem_cons_succ, List.getElem_cons_zero, List.setIfInBounds_toArray, List.set_cons_zero, List.set_cons_succ]
    obtain ⟨s0, s1, s2⟩ := hSw; go_simp
  try simp only [Act.put, List.getElem_toArray, List.getElem_cons_succ, List.getElem_cons_zero, List.setIfInBounds_toArray, List.set_cons_zero, List.set_cons_succ]
  refine wpAnyH_take (i := 7) (v := .slice ao m cap) rfl (by kernel_rfl) (by kernel_rfl) (by kernel_rfl) (fun _ _ _ h => h) (Or.inl ⟨by rfl, ?_⟩) hHeld ?_
  · intro w' hSw
    try simp only [Act.put, List.getElem_toArray, List.getElem_cons_succ, List.getElem_cons_zero, List.setIfInBounds_toArray, List.set_cons_zero, List.set_cons_succ]
    go_simp
  try simp only [Act.put, List.getElem_toArray, List.getElem_cons_succ, List.getElem_cons_zero, List.setIfInBounds_toArray, List.set_cons_zero, List.set_cons_succ]
  clear hHeld
  refine wpAnyH_ready (rs := [8]) (by kernel_rfl) (by simp) (AllReadyH.cons rfl (fun K hK => ?_) AllReadyH.nil)
  rw [if_pos (by rfl)]
  go_wp2_with fail
  refine (HFEW.out _).out.mono ?_
  rintro e _ ⟨rfl, rfl⟩
  obtain ⟨c0, c1, c2, HTy, HPC⟩ := H2.out
  refine hK.out _ _ ⟨c0, c1, c2⟩ (fun hHeld => ?_)
  clear hK
  try simp only [Act.put, List.getElem_toArray, List.getElem_cons_succ, List.getElem_cons_zero, List.setIfInBounds_toArray, List.set_cons_zero, List.set_cons_succ]
  clear hHeld
  refine wpAnyH_ready (rs := [9]) (by kernel_rfl) (by simp) (AllReadyH.cons rfl (fun K hK => ?_) AllReadyH.nil)
  rw [if_pos (by rfl)]
  go_wp2_with fail
  refine HPC.out.out.mono ?_
  clear HPC
  rintro e w4 ⟨a2, p2, rfl, i2, t2⟩
  obtain ⟨d0, d1, d2, HI2, HTw4⟩ := HN2.out w4 _ _ HTy.out i2 t2
  have HI3 : Hid (InsIn w4 a1 q p1 L) := HI1.out.keep ((Touch.refl w2 []).drew.trans t2 (by simp))
  clear i2 t2 c0 c1 c2
  refine hK.out _ _ ⟨d0, d1, d2⟩ (fun hHeld => ?_)
  clear hK
  try simp only [Act.put, List.getElem_toArray, List.getElem_cons_succ, List.getElem_cons_zero, List.setIfInBounds_toArray, List.set_cons_zero, List.set_cons_succ]
  refine wpAnyH_take (i := 10) (v := .tuple #[.slice a2 q p2, .int .i64 E]) rfl (by kernel_rfl) (by kernel_rfl) (by kernel_rfl) (fun _ _ _ h => h) (Or.inl ⟨by rfl, ?_⟩) hHeld ?_
  · intro w' hSw
    try simp only [Act.put, List.getElem_toArray, List.getElem_cons_succ, List.getElem_cons_zero, List.setIfInBounds_toArray, List.set_cons_zero, List.set_cons_succ]
    go_simp
  try simp only [Act.put, List.getElem_toArray, List.getElem_cons_succ, List.getElem_cons_zero, List.setIfInBounds_toArray, List.set_cons_zero, List.set_cons_succ]
  refine wpAnyH_take (i := 11) (v := .slice a2 q p2) rfl (by kernel_rfl) (by kernel_rfl) (by kernel_rfl) (fun _ _ _ h => h) (Or.inl ⟨by rfl, ?_⟩) hHeld ?_
  · intro w' hSw
    try simp only [Act.put, List.getElem_toArray, List.getElem_cons_succ, List.getElem_cons_zero, List.setIfInBounds_toArray, List.set_cons_zero, List.set_cons_succ]
    go_simp
  try simp only [Act.put, List.getElem_toArray, List.getElem_cons_succ, List.getElem_cons_zero, List.setIfInBounds_toArray, List.set_cons_zero, List.set_cons_succ]
  refine wpAnyH_take (i := 12) (v := .int .i64 E) rfl (by kernel_rfl) (by kernel_rfl) (by kernel_rfl) (fun _ _ _ h => h) (Or.inl ⟨by rfl, ?_⟩) hHeld ?_
  · intro w' hSw
    try simp only [Act.put, List.getElem_toArray, List.getElem_cons_succ, List.getElem_cons_zero, List.setIfInBounds_toArray, List.set_cons_zero, List.set_cons_succ]
    go_simp
  try simp only [Act.put, List.getElem_toArray, List.getElem_cons_succ, List.getElem_cons_zero, List.setIfInBounds_toArray, List.set_cons_zero, List.set_cons_succ]
  refine wpAnyH_take (i := 13) (v := .slice a2 q p2) rfl (by kernel_rfl) (by kernel_rfl) (by kernel_rfl) (fun _ _ _ h => h) (Or.inl ⟨by rfl, ?_⟩) hHeld ?_
  · intro w' hSw
    try simp only [Act.put, List.getElem_toArray, List.getElem_cons_succ, List.getElem_cons_zero, List.setIfInBounds_toArray, List.set_cons_zero, List.set_cons_succ]
    go_simp
  try simp only [Act.put, List.getElem_toArray, List.getElem_cons_succ, List.getElem_cons_zero, List.setIfInBounds_toArray, List.set_cons_zero, List.set_cons_succ]
  refine wpAnyH_take (i := 14) (v := .int .i64 E) rfl (by kernel_rfl) (by kernel_rfl) (by kernel_rfl) (fun _ _ _ h => h) (Or.inl ⟨by rfl, ?_⟩) hHeld ?_
  · intro w' hSw
    try simp only [Act.put, List.getElem_toArray, List.getElem_cons_succ, List.getElem_cons_zero, List.setIfInBounds_toArray, List.set_cons_zero, List.set_cons_succ]
    go_simp
  try simp only [Act.put, List.getElem_toArray, List.getElem_cons_succ, List.getElem_cons_zero, List.setIfInBounds_toArray, List.set_cons_zero, List.set_cons_succ]
  clear hHeld
  refine wpAnyH_done (by kernel_rfl) ?_ _
  clear d0 d1 d2
  go_wp2_with fail
  refine (HLV.out _ HTw4.out).out.mono ?_
  rintro e w5 ⟨rfl, t5⟩
  have HA5 : Hid (InsIn w5 a1 q p1 L) := HI3.out.keep t5
  have HB5 : Hid (InsIn w5 a2 q p2 L) := HI2.out.keep t5
  have HT5 : Hid (Touch w w5 []) := (HTX.out.trans HTw4.out (by simp)).trans t5 (by simp)
  clear HI1 HI2 HI3 t5
  go_wp2_with fail
  refine (rsame_eq HA5.out HB5.out HQ.out).mono ?_
  rintro e w6 ⟨rfl, t6⟩
  have HT6 : Hid (Touch w w6 []) := HT5.out.trans t6 (by simp)
  clear t6
  go_wp2
  go_ret
  exact ⟨rfl, HT6.out⟩

end Go.Proofs.YtcbkafbchpjnoaaGreatDoor
