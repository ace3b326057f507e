/-
  CallsMay, WALKED. Written by mkclmay2.py.
-/
import Derived.Test.YtcbkafbchpjnoaaGreatDoorAllD
import Derived.Test.YtcbkafbchpjnoaaGreatDoorAllC
import Derived.Test.YtcbkafbchpjnoaaGreatDoorVfRCheck
import Derived.Test.YtcbkafbchpjnoaaGreatDoorCdLive
import Derived.Test.YtcbkafbchpjnoaaGreatDoorCapsOf
import Derived.Test.YtcbkafbchpjnoaaGreatDoorTie
import Derived.Test.YtcbkafbchpjnoaaGreatDoorCards
import Derived.ProofKit
import Derived.LaidMore
import Derived.OpenShut
import Derived.Stop.Joined
import Derived.Lib.LaidTab
import Derived.Lib.SmallJoins
import Derived.SizedLaws
import Derived.ChangeMaps5
import Derived.Lib.Strings
namespace Go.Proofs.YtcbkafbchpjnoaaGreatDoor
set_option linter.unusedVariables false
set_option linter.unusedSimpArgs false
open Go.RowKit
-- LIVING may_any begin_any
attribute [local go_sem] Oper.semAt_some

theorem cmay_check {W : World} {a : Option Addr} {p : Nat} {L : List InsD} {x : Int} (hl : L.length ≤ 64) (hc : (chkV L x).2 = 0) (h : InsIn W a L.length p L) :
    Calls Tryz.prog 21 #[.slice a L.length p, .int .i64 x] W (fun e w' => ∃ p, e = .returned (.tuple #[.int .i64 p, .int .i64 0]) ∧ Touch W w' []) := by
  refine (rcheck_any rfl (by omega) h.row h.wf x).mono ?_
  unfold ChkPost
  rw [hc]
  rintro e w' ⟨rfl, t⟩
  exact ⟨_, rfl, t⟩
theorem may_wrap {k n t u : Int} {l : List CaD} (h : proE k n t u l = 0) : IntKind.i64.wrap (t + tvN k n) = t + tvN k n := by
  unfold proE at h
  cases ho : okO k n with
  | false => rw [ho] at h; simp at h
  | true =>
    cases hA : l.all (areC k u) with
    | false => rw [ho, hA] at h; simp at h
    | true =>
      rw [ho, hA] at h
      simp only [Bool.and_self, if_true] at h
      cases hc : (decide (0 ≤ t) && decide (t ≤ 12 - tvN k n)) && (decide (0 ≤ u) && decide (u ≤ 3)) with
      | false => rw [hc] at h; simp at h
      | true =>
        simp only [Bool.and_eq_true, decide_eq_true_eq] at hc
        have := tv_le ho
        have h1 : -100 ≤ t + tvN k n ∧ t + tvN k n ≤ 100 := by omega
        rw [IntKind.wrap_i64]
        omega

set_option maxRecDepth 100000 in
set_option maxHeartbeats 2000000 in
theorem callsmay_any {w : World} (hw : Wds w) (k n t u : Int) {ao : Option Addr} {m cap : Nat} {l : List CaD} (hl : CasIn w ao m cap l) :
    Calls Tryz.prog 5 #[.int .u8 k, .agg #[.int .i64 n, .int .i64 t, .int .i64 u], .slice ao m cap] w fun e w' => e = .returned (.bool true) ∧ Touch w w' [] := by
  have hlen : (proL n t (l.take 12)).length ≤ 1000 := by
    unfold proL
    cases h : runC n t (l.take 12) [] with
    | none => simp
    | some P => have := runC_len n t _ _ _ h; simp; omega
  have hT : l.take (min m 12) = l.take 12 := by
    rw [hl.len]
    rcases Nat.le_total l.length 12 with h | h
    · rw [Nat.min_eq_left h, List.take_length, List.take_of_length_le h]
    · rw [Nat.min_eq_right h]
  have hF : CasIn w ao (min m 12) cap (l.take 12) := by rw [← hT]; exact hl.first _ (Nat.min_le_left _ _)
  obtain ⟨XW, hXW⟩ : ∃ W, W = w.alloc (.cells #[.int .i64 n, .int .i64 t, .int .i64 u] 23) := ⟨_, rfl⟩
  have tX : Touch w XW [] := by rw [hXW]; exact (Touch.refl _ _).alloc _
  have hb : XW.heap[w.heap.size]? = some (.cells #[.int .i64 n, .int .i64 t, .int .i64 u] 23 (0, 0)) := by rw [hXW]; exact heap_alloc_new w _
  have hbs : w.heap.size < XW.heap.size := lt_of_heap hb
  have HX : Hid (∀ W, Touch XW W [] → W.cell? ⟨w.heap.size, 0, none⟩ = some (.int .i64 n) ∧ W.cell? ⟨w.heap.size, 1, none⟩ = some (.int .i64 t) ∧ W.cell? ⟨w.heap.size, 2, none⟩ = some (.int .i64 u)) := fun W tw => by
    have h := (tw.block w.heap.size hbs (by simp)).trans hb
    unfold World.cell?
    rw [h]
    exact ⟨rfl, rfl, rfl⟩
  have HFEW : Hid (∀ W, HidC Tryz.prog 9 #[.slice ao m cap] W fun e w' => e = .returned (.slice ao (min m 12 : Nat) cap) ∧ W = w') := fun W => ⟨clfew_any W hl.le⟩
  have C1 : Hid (∀ W, Touch XW W [] → HidC Tryz.prog 8 #[.int .u8 k, .int .i64 n, .int .i64 t, .int .i64 u, .slice ao (min m 12 : Nat) cap] W (LkQ W (proE k n t u (l.take 12)) (lkL (proE k n t u (l.take 12)) (proL n t (l.take 12))).length (lkL (proE k n t u (l.take 12)) (proL n t (l.take 12))))) := fun W tw => ⟨(program_any (hw.touch (tX.trans tw (by simp)) (by simp)) k n t u (hF.keep (tX.trans tw (by simp))) (by omega)).mono fun _ _ h => h.q⟩
  have HLV : Hid (∀ W, Touch XW W [] → HidC Tryz.prog 11 #[] W fun e w' => e = .returned (.bool true) ∧ Touch W w' []) := fun W tw => ⟨cllive_any (hw.touch (tX.trans tw (by simp)) (by simp))⟩
  have HTX : Hid _ := tX
  have HM : Hid ((proE k n t u (l.take 12) = 0 → IntKind.i64.wrap (t + tvN k n) = t + tvN k n ∧ (((lkL (proE k n t u (l.take 12)) (proL n t (l.take 12))).length : Nat) : Int) ≤ 64 ∧ ∀ W a p, InsIn W a (lkL (proE k n t u (l.take 12)) (proL n t (l.take 12))).length p (lkL (proE k n t u (l.take 12)) (proL n t (l.take 12))) → HidC Tryz.prog 21 #[.slice a (lkL (proE k n t u (l.take 12)) (proL n t (l.take 12))).length p, .int .i64 (t + tvN k n)] W (fun e w' => ∃ p, e = .returned (.tuple #[.int .i64 p, .int .i64 0]) ∧ Touch W w' [])) ∧ (proE k n t u (l.take 12) ≠ 0 → (((lkL (proE k n t u (l.take 12)) (proL n t (l.take 12))).length : Nat) : Int) = 0)) := by
    refine ⟨fun h0 => ?_, fun h0 => ?_⟩
    · obtain ⟨m1, m2⟩ := may_plain hF.wf h0
      have e : lkL (proE k n t u (l.take 12)) (proL n t (l.take 12)) = proL n t (l.take 12) := by unfold lkL; rw [if_pos h0]
      rw [e]
      exact ⟨may_wrap h0, by omega, fun W a p h => ⟨cmay_check m2 m1 h⟩⟩
    · unfold lkL
      rw [if_neg h0]
      rfl
  have HTV : Hid (∀ W, HidC Tryz.prog 17 #[.int .u8 k, .int .i64 n] W fun e w' => e = .returned (.int .i64 (tvN k n)) ∧ Touch W w' []) := fun W => ⟨tvars_any k n W⟩
  clear hlen hT hF tX hb hbs hw hl
  generalize tvN k n = tv at *
  generalize lkL (proE k n t u (l.take 12)) (proL n t (l.take 12)) = L at *
  generalize proE k n t u (l.take 12) = E at *
  obtain ⟨q, hq⟩ : ∃ q, q = L.length := ⟨_, rfl⟩
  rw [← hq] at C1 HM
  clear hq
  generalize min m 12 = m12 at *
  have HE : Hid (XW.cell? ⟨w.heap.size, 0, none⟩ = some (.int .i64 n) ∧ XW.cell? ⟨w.heap.size, 1, none⟩ = some (.int .i64 t) ∧ XW.cell? ⟨w.heap.size, 2, none⟩ = some (.int .i64 u)) := HX.out XW (Touch.refl _ _)
  have H1 : Hid (XW.drew.cell? ⟨w.heap.size, 0, none⟩ = some (.int .i64 n) ∧ XW.drew.cell? ⟨w.heap.size, 1, none⟩ = some (.int .i64 t) ∧ XW.drew.cell? ⟨w.heap.size, 2, none⟩ = some (.int .i64 u) ∧ Hid (Touch XW XW.drew []) ∧ Hid (HidC Tryz.prog 8 #[.int .u8 k, .int .i64 n, .int .i64 t, .int .i64 u, .slice ao m12 cap] XW.drew (LkQ XW.drew E q L))) := by
    have td : Touch XW XW.drew [] := (Touch.refl _ _).drew
    obtain ⟨y0, y1, y2⟩ := HX.out _ td
    exact ⟨y0, y1, y2, td, C1.out _ td⟩
  have HN1 : Hid (∀ w2 a p, Touch XW XW.drew [] → InsIn w2 a q p L → Touch XW.drew w2 [] → w2.cell? ⟨w.heap.size, 0, none⟩ = some (.int .i64 n) ∧ w2.cell? ⟨w.heap.size, 1, none⟩ = some (.int .i64 t) ∧ w2.cell? ⟨w.heap.size, 2, none⟩ = some (.int .i64 u) ∧ Hid (InsIn w2 a q p L) ∧ Hid (Touch XW w2 [])) := by
    intro w2 a p td hi t2
    have tt : Touch XW w2 [] := td.trans t2 (by simp)
    obtain ⟨y0, y1, y2⟩ := HX.out _ tt
    exact ⟨y0, y1, y2, hi, tt⟩
  have HG4 : Hid (∀ w2 a p, Touch XW w2 [] → InsIn w2 a q p L → Hid (w2.drew.cell? ⟨w.heap.size, 0, none⟩ = some (.int .i64 n) ∧ w2.drew.cell? ⟨w.heap.size, 1, none⟩ = some (.int .i64 t) ∧ w2.drew.cell? ⟨w.heap.size, 2, none⟩ = some (.int .i64 u) ∧ Hid (∀ w3, Touch w2.drew w3 [] → w3.cell? ⟨w.heap.size, 0, none⟩ = some (.int .i64 n) ∧ w3.cell? ⟨w.heap.size, 1, none⟩ = some (.int .i64 t) ∧ w3.cell? ⟨w.heap.size, 2, none⟩ = some (.int .i64 u) ∧ Hid (Touch XW w3 []) ∧ Hid (InsIn w3 a q p L)))) := by
    intro w2 a p t2 hi
    have td : Touch XW w2.drew [] := t2.drew
    obtain ⟨y0, y1, y2⟩ := HX.out _ td
    refine ⟨y0, y1, y2, fun w3 t3 => ?_⟩
    obtain ⟨z0, z1, z2⟩ := HX.out _ (td.trans t3 (by simp))
    exact ⟨z0, z1, z2, td.trans t3 (by simp), hi.keep ((Touch.refl w2 []).drew.trans t3 (by simp))⟩
  have HC3 : Hid (∀ w3 w4, Touch XW w3 [] → Touch w3 w4 [] → w4.cell? ⟨w.heap.size, 0, none⟩ = some (.int .i64 n) ∧ w4.cell? ⟨w.heap.size, 1, none⟩ = some (.int .i64 t) ∧ w4.cell? ⟨w.heap.size, 2, none⟩ = some (.int .i64 u) ∧ Hid (Touch XW w4 [])) := by
    intro w3 w4 t3 t4
    obtain ⟨z0, z1, z2⟩ := HX.out _ (t3.trans t4 (by simp))
    exact ⟨z0, z1, z2, t3.trans t4 (by simp)⟩
  obtain ⟨b0, b1, b2⟩ := HE.out
  clear C1 HX HE
  go_enter Tryz.func5, Tryz.ntmps5
  go_wp2_with fail
  simp only [← hXW]
  clear hXW
  generalize w.heap.size = b at *
  refine wp_region_held_drew (S := (fun w' => w'.cell? ⟨b, 0, none⟩ = some (.int .i64 n) ∧ w'.cell? ⟨b, 1, none⟩ = some (.int .i64 t) ∧ w'.cell? ⟨b, 2, none⟩ = some (.int .i64 u))) (by kernel_rfl) ⟨b0, b1, b2⟩ (fun hHeld => ?_)
  refine wpAnyH_take (i := 0) (v := .int .u8 k) rfl (by kernel_rfl) (by kernel_rfl) (by kernel_rfl) (fun _ _ _ h => h) (Or.inl ⟨by rfl, ?_⟩) hHeld ?_
  · intro w' hSw
    try simp only [Act.put, List.getElem_toArray, List.getElem_cons_succ, List.getElem_cons_zero, List.setIfInBounds_toArray, List.set_cons_zero, List.set_cons_succ]
    go_simp
  try simp only [Act.put, List.getElem_toArray, List.getElem_cons_succ, List.getElem_cons_zero, List.setIfInBounds_toArray, List.set_cons_zero, List.set_cons_succ]
  refine wpAnyH_take (i := 1) (v := .pointer (some ⟨b, 0, none⟩)) rfl (by kernel_rfl) (by kernel_rfl) (by kernel_rfl) (fun _ _ _ h => h) (Or.inl ⟨by rfl, ?_⟩) hHeld ?_
  · intro w' hSw
    try simp only [Act.put, List.getElem_toArray, List.getElem_cons_succ, List.getElem_cons_zero, List.setIfInBounds_toArray, List.set_cons_zero, List.set_cons_succ]
    go_simp
  try simp only [Act.put, List.getElem_toArray, List.getElem_cons_succ, List.getElem_cons_zero, List.setIfInBounds_toArray, List.set_cons_zero, List.set_cons_succ]
  refine wpAnyH_take (i := 2) (v := .int .i64 n) rfl (by kernel_rfl) (by kernel_rfl) (by kernel_rfl) (fun _ _ _ h => h) (Or.inl ⟨by rfl, ?_⟩) hHeld ?_
  · intro w' hSw
    try simp only [Act.put, List.getElem_toArray, List.getElem_cons_succ, List.getElem_cons_zero, List.setIfInBounds_toArray, List.set_cons_zero, List.set_cons_succ]
    obtain ⟨s0, s1, s2⟩ := hSw; go_simp
  try simp only [Act.put, List.getElem_toArray, List.getElem_cons_succ, List.getElem_cons_zero, List.setIfInBounds_toArray, List.set_cons_zero, List.set_cons_succ]
  refine wpAnyH_take (i := 3) (v := .pointer (some ⟨b, 1, none⟩)) rfl (by kernel_rfl) (by kernel_rfl) (by kernel_rfl) (fun _ _ _ h => h) (Or.inl ⟨by rfl, ?_⟩) hHeld ?_
  · intro w' hSw
    try simp only [Act.put, List.getElem_toArray, List.getElem_cons_succ, List.getElem_cons_zero, List.setIfInBounds_toArray, List.set_cons_zero, List.set_cons_succ]
    go_simp
  try simp only [Act.put, List.getElem_toArray, List.getElem_cons_succ, List.getElem_cons_zero, List.setIfInBounds_toArray, List.set_cons_zero, List.set_cons_succ]
  refine wpAnyH_take (i := 4) (v := .int .i64 t) rfl (by kernel_rfl) (by kernel_rfl) (by kernel_rfl) (fun _ _ _ h => h) (Or.inl ⟨by rfl, ?_⟩) hHeld ?_
  · intro w' hSw
    try simp only [Act.put, List.getElem_toArray, List.getElem_cons_succ, List.getElem_cons_zero, List.setIfInBounds_toArray, List.set_cons_zero, List.set_cons_succ]
    obtain ⟨s0, s1, s2⟩ := hSw; go_simp
  try simp only [Act.put, List.getElem_toArray, List.getElem_cons_succ, List.getElem_cons_zero, List.setIfInBounds_toArray, List.set_cons_zero, List.set_cons_succ]
  refine wpAnyH_take (i := 5) (v := .pointer (some ⟨b, 2, none⟩)) rfl (by kernel_rfl) (by kernel_rfl) (by kernel_rfl) (fun _ _ _ h => h) (Or.inl ⟨by rfl, ?_⟩) hHeld ?_
  · intro w' hSw
    try simp only [Act.put, List.getElem_toArray, List.getElem_cons_succ, List.getElem_cons_zero, List.setIfInBounds_toArray, List.set_cons_zero, List.set_cons_succ]
    go_simp
  try simp only [Act.put, List.getElem_toArray, List.getElem_cons_succ, List.getElem_cons_zero, List.setIfInBounds_toArray, List.set_cons_zero, List.set_cons_succ]
  refine wpAnyH_take (i := 6) (v := .int .i64 u) rfl (by kernel_rfl) (by kernel_rfl) (by kernel_rfl) (fun _ _ _ h => h) (Or.inl ⟨by rfl, ?_⟩) hHeld ?_
  · intro w' hSw
    try simp only [Act.put, List.getElem_toArray, List.getElem_cons_succ, List.getElem_cons_zero, List.setIfInBounds_toArray, List.set_cons_zero, List.set_cons_succ]
    obtain ⟨s0, s1, s2⟩ := hSw; go_simp
  try simp only [Act.put, List.getElem_toArray, List.getElem_cons_succ, List.getElem_cons_zero, List.setIfInBounds_toArray, List.set_cons_zero, List.set_cons_succ]
  refine wpAnyH_take (i := 7) (v := .slice ao m cap) rfl (by kernel_rfl) (by kernel_rfl) (by kernel_rfl) (fun _ _ _ h => h) (Or.inl ⟨by rfl, ?_⟩) hHeld ?_
  · intro w' hSw
    try simp only [Act.put, List.getElem_toArray, List.getElem_cons_succ, List.getElem_cons_zero, List.setIfInBounds_toArray, List.set_cons_zero, List.set_cons_succ]
    go_simp
  try simp only [Act.put, List.getElem_toArray, List.getElem_cons_succ, List.getElem_cons_zero, List.setIfInBounds_toArray, List.set_cons_zero, List.set_cons_succ]
  clear hHeld
  refine wpAnyH_ready (rs := [8]) (by kernel_rfl) (by simp) (AllReadyH.cons rfl (fun K hK => ?_) AllReadyH.nil)
  rw [if_pos (by rfl)]
  go_wp2_with fail
  refine (HFEW.out _).out.mono ?_
  rintro e _ ⟨rfl, rfl⟩
  obtain ⟨c0, c1, c2, HTx, HPC⟩ := H1.out
  refine hK.out _ _ ⟨c0, c1, c2⟩ (fun hHeld => ?_)
  clear hK
  try simp only [Act.put, List.getElem_toArray, List.getElem_cons_succ, List.getElem_cons_zero, List.setIfInBounds_toArray, List.set_cons_zero, List.set_cons_succ]
  clear hHeld
  refine wpAnyH_ready (rs := [9]) (by kernel_rfl) (by simp) (AllReadyH.cons rfl (fun K hK => ?_) AllReadyH.nil)
  rw [if_pos (by rfl)]
  go_wp2_with fail
  refine HPC.out.out.mono ?_
  clear HPC
  rintro e w2 ⟨a1, p1, rfl, i1, t1⟩
  obtain ⟨d0, d1, d2, HI1, HTw2⟩ := HN1.out w2 _ _ HTx.out i1 t1
  clear i1 t1 c0 c1 c2
  refine hK.out _ _ ⟨d0, d1, d2⟩ (fun hHeld => ?_)
  clear hK
  try simp only [Act.put, List.getElem_toArray, List.getElem_cons_succ, List.getElem_cons_zero, List.setIfInBounds_toArray, List.set_cons_zero, List.set_cons_succ]
  refine wpAnyH_take (i := 10) (v := .tuple #[.slice a1 q p1, .int .i64 E]) rfl (by kernel_rfl) (by kernel_rfl) (by kernel_rfl) (fun _ _ _ h => h) (Or.inl ⟨by rfl, ?_⟩) hHeld ?_
  · intro w' hSw
    try simp only [Act.put, List.getElem_toArray, List.getElem_cons_succ, List.getElem_cons_zero, List.setIfInBounds_toArray, List.set_cons_zero, List.set_cons_succ]
    go_simp
  try simp only [Act.put, List.getElem_toArray, List.getElem_cons_succ, List.getElem_cons_zero, List.setIfInBounds_toArray, List.set_cons_zero, List.set_cons_succ]
  refine wpAnyH_take (i := 11) (v := .slice a1 q p1) rfl (by kernel_rfl) (by kernel_rfl) (by kernel_rfl) (fun _ _ _ h => h) (Or.inl ⟨by rfl, ?_⟩) hHeld ?_
  · intro w' hSw
    try simp only [Act.put, List.getElem_toArray, List.getElem_cons_succ, List.getElem_cons_zero, List.setIfInBounds_toArray, List.set_cons_zero, List.set_cons_succ]
    go_simp
  try simp only [Act.put, List.getElem_toArray, List.getElem_cons_succ, List.getElem_cons_zero, List.setIfInBounds_toArray, List.set_cons_zero, List.set_cons_succ]
  refine wpAnyH_take (i := 12) (v := .int .i64 E) rfl (by kernel_rfl) (by kernel_rfl) (by kernel_rfl) (fun _ _ _ h => h) (Or.inl ⟨by rfl, ?_⟩) hHeld ?_
  · intro w' hSw
    try simp only [Act.put, List.getElem_toArray, List.getElem_cons_succ, List.getElem_cons_zero, List.setIfInBounds_toArray, List.set_cons_zero, List.set_cons_succ]
    go_simp
  try simp only [Act.put, List.getElem_toArray, List.getElem_cons_succ, List.getElem_cons_zero, List.setIfInBounds_toArray, List.set_cons_zero, List.set_cons_succ]
  refine wpAnyH_take (i := 13) (v := .slice a1 q p1) rfl (by kernel_rfl) (by kernel_rfl) (by kernel_rfl) (fun _ _ _ h => h) (Or.inl ⟨by rfl, ?_⟩) hHeld ?_
  · intro w' hSw
    try simp only [Act.put, List.getElem_toArray, List.getElem_cons_succ, List.getElem_cons_zero, List.setIfInBounds_toArray, List.set_cons_zero, List.set_cons_succ]
    go_simp
  try simp only [Act.put, List.getElem_toArray, List.getElem_cons_succ, List.getElem_cons_zero, List.setIfInBounds_toArray, List.set_cons_zero, List.set_cons_succ]
  refine wpAnyH_take (i := 14) (v := .int .i64 E) rfl (by kernel_rfl) (by kernel_rfl) (by kernel_rfl) (fun _ _ _ h => h) (Or.inl ⟨by rfl, ?_⟩) hHeld ?_
  · intro w' hSw
    try simp only [Act.put, List.getElem_toArray, List.getElem_cons_succ, List.getElem_cons_zero, List.setIfInBounds_toArray, List.set_cons_zero, List.set_cons_succ]
    go_simp
  try simp only [Act.put, List.getElem_toArray, List.getElem_cons_succ, List.getElem_cons_zero, List.setIfInBounds_toArray, List.set_cons_zero, List.set_cons_succ]
  clear hHeld
  refine wpAnyH_done (by kernel_rfl) ?_ _
  clear b0 b1 b2 H1 HN1 d0 d1 d2
  by_cases hE0 : E = 0
  · obtain ⟨hwr, hq64, hck⟩ := HM.out.1 hE0
    have HCK : Hid _ := hck
    have HG := HG4.out w2 _ _ HTw2.out HI1.out
    clear hck HM HG4
    subst hE0
    go_wp2_with fail
    obtain ⟨e0, e1, e2, HW3⟩ := HG.out
    clear HG
    refine wp_region_held_drew (S := (fun w' => w'.cell? ⟨b, 0, none⟩ = some (.int .i64 n) ∧ w'.cell? ⟨b, 1, none⟩ = some (.int .i64 t) ∧ w'.cell? ⟨b, 2, none⟩ = some (.int .i64 u))) (by kernel_rfl) ⟨e0, e1, e2⟩ (fun hHeld => ?_)
    refine wpAnyH_take (i := 0) (v := .slice a1 q p1) rfl (by kernel_rfl) (by kernel_rfl) (by kernel_rfl) (fun _ _ _ h => h) (Or.inl ⟨by rfl, ?_⟩) hHeld ?_
    · intro w' hSw
      try simp only [Act.put, List.getElem_toArray, List.getElem_cons_succ, List.getElem_cons_zero, List.setIfInBounds_toArray, List.set_cons_zero, List.set_cons_succ]
      go_simp
    try simp only [Act.put, List.getElem_toArray, List.getElem_cons_succ, List.getElem_cons_zero, List.setIfInBounds_toArray, List.set_cons_zero, List.set_cons_succ]
    refine wpAnyH_take (i := 1) (v := .pointer (some ⟨b, 1, none⟩)) rfl (by kernel_rfl) (by kernel_rfl) (by kernel_rfl) (fun _ _ _ h => h) (Or.inl ⟨by rfl, ?_⟩) hHeld ?_
    · intro w' hSw
      try simp only [Act.put, List.getElem_toArray, List.getElem_cons_succ, List.getElem_cons_zero, List.setIfInBounds_toArray, List.set_cons_zero, List.set_cons_succ]
      go_simp
    try simp only [Act.put, List.getElem_toArray, List.getElem_cons_succ, List.getElem_cons_zero, List.setIfInBounds_toArray, List.set_cons_zero, List.set_cons_succ]
    refine wpAnyH_take (i := 2) (v := .int .i64 t) rfl (by kernel_rfl) (by kernel_rfl) (by kernel_rfl) (fun _ _ _ h => h) (Or.inl ⟨by rfl, ?_⟩) hHeld ?_
    · intro w' hSw
      try simp only [Act.put, List.getElem_toArray, List.getElem_cons_succ, List.getElem_cons_zero, List.setIfInBounds_toArray, List.set_cons_zero, List.set_cons_succ]
      obtain ⟨s0, s1, s2⟩ := hSw; go_simp
    try simp only [Act.put, List.getElem_toArray, List.getElem_cons_succ, List.getElem_cons_zero, List.setIfInBounds_toArray, List.set_cons_zero, List.set_cons_succ]
    refine wpAnyH_take (i := 3) (v := .int .u8 k) rfl (by kernel_rfl) (by kernel_rfl) (by kernel_rfl) (fun _ _ _ h => h) (Or.inl ⟨by rfl, ?_⟩) hHeld ?_
    · intro w' hSw
      try simp only [Act.put, List.getElem_toArray, List.getElem_cons_succ, List.getElem_cons_zero, List.setIfInBounds_toArray, List.set_cons_zero, List.set_cons_succ]
      go_simp
    try simp only [Act.put, List.getElem_toArray, List.getElem_cons_succ, List.getElem_cons_zero, List.setIfInBounds_toArray, List.set_cons_zero, List.set_cons_succ]
    refine wpAnyH_take (i := 4) (v := .pointer (some ⟨b, 0, none⟩)) rfl (by kernel_rfl) (by kernel_rfl) (by kernel_rfl) (fun _ _ _ h => h) (Or.inl ⟨by rfl, ?_⟩) hHeld ?_
    · intro w' hSw
      try simp only [Act.put, List.getElem_toArray, List.getElem_cons_succ, List.getElem_cons_zero, List.setIfInBounds_toArray, List.set_cons_zero, List.set_cons_succ]
      go_simp
    try simp only [Act.put, List.getElem_toArray, List.getElem_cons_succ, List.getElem_cons_zero, List.setIfInBounds_toArray, List.set_cons_zero, List.set_cons_succ]
    refine wpAnyH_take (i := 5) (v := .int .i64 n) rfl (by kernel_rfl) (by kernel_rfl) (by kernel_rfl) (fun _ _ _ h => h) (Or.inl ⟨by rfl, ?_⟩) hHeld ?_
    · intro w' hSw
      try simp only [Act.put, List.getElem_toArray, List.getElem_cons_succ, List.getElem_cons_zero, List.setIfInBounds_toArray, List.set_cons_zero, List.set_cons_succ]
      obtain ⟨s0, s1, s2⟩ := hSw; go_simp
    try simp only [Act.put, List.getElem_toArray, List.getElem_cons_succ, List.getElem_cons_zero, List.setIfInBounds_toArray, List.set_cons_zero, List.set_cons_succ]
    clear hHeld
    refine wpAnyH_ready (rs := [6]) (by kernel_rfl) (by simp) (AllReadyH.cons rfl (fun K hK => ?_) AllReadyH.nil)
    rw [if_pos (by rfl)]
    go_wp2_with fail
    refine (HTV.out _).out.mono ?_
    rintro e w3 ⟨rfl, t3⟩
    obtain ⟨f0, f1, f2, HT3, HI3⟩ := HW3.out w3 t3
    clear t3 HW3
    refine hK.out _ _ ⟨f0, f1, f2⟩ (fun hHeld => ?_)
    clear hK
    try simp only [Act.put, List.getElem_toArray, List.getElem_cons_succ, List.getElem_cons_zero, List.setIfInBounds_toArray, List.set_cons_zero, List.set_cons_succ]
    refine wpAnyH_take (i := 7) (v := .int .i64 (t + tv)) rfl (by kernel_rfl) (by kernel_rfl) (by kernel_rfl) (fun _ _ _ h => h) (Or.inl ⟨by rfl, ?_⟩) hHeld ?_
    · intro w' hSw
      try simp only [Act.put, List.getElem_toArray, List.getElem_cons_succ, List.getElem_cons_zero, List.setIfInBounds_toArray, List.set_cons_zero, List.set_cons_succ]
      first | (go_simp; done) | (go_simp; rw [hwr])
    try simp only [Act.put, List.getElem_toArray, List.getElem_cons_succ, List.getElem_cons_zero, List.setIfInBounds_toArray, List.set_cons_zero, List.set_cons_succ]
    clear hHeld
    refine wpAnyH_ready (rs := [8]) (by kernel_rfl) (by simp) (AllReadyH.cons rfl (fun K hK => ?_) AllReadyH.nil)
    rw [if_pos (by rfl)]
    go_wp2_with fail
    refine (HCK.out _ _ _ HI3.out).out.mono ?_
    rintro e w4 ⟨pp, rfl, t4⟩
    obtain ⟨g0, g1, g2, HT4⟩ := HC3.out w3 w4 HT3.out t4
    clear t4 f0 f1 f2
    refine hK.out _ _ ⟨g0, g1, g2⟩ (fun hHeld => ?_)
    clear hK
    try simp only [Act.put, List.getElem_toArray, List.getElem_cons_succ, List.getElem_cons_zero, List.setIfInBounds_toArray, List.set_cons_zero, List.set_cons_succ]
    refine wpAnyH_take (i := 9) (v := .tuple #[.int .i64 pp, .int .i64 0]) rfl (by kernel_rfl) (by kernel_rfl) (by kernel_rfl) (fun _ _ _ h => h) (Or.inl ⟨by rfl, ?_⟩) hHeld ?_
    · intro w' hSw
      try simp only [Act.put, List.getElem_toArray, List.getElem_cons_succ, List.getElem_cons_zero, List.setIfInBounds_toArray, List.set_cons_zero, List.set_cons_succ]
      go_simp
    try simp only [Act.put, List.getElem_toArray, List.getElem_cons_succ, List.getElem_cons_zero, List.setIfInBounds_toArray, List.set_cons_zero, List.set_cons_succ]
    refine wpAnyH_take (i := 10) (v := .int .i64 pp) rfl (by kernel_rfl) (by kernel_rfl) (by kernel_rfl) (fun _ _ _ h => h) (Or.inl ⟨by rfl, ?_⟩) hHeld ?_
    · intro w' hSw
      try simp only [Act.put, List.getElem_toArray, List.getElem_cons_succ, List.getElem_cons_zero, List.setIfInBounds_toArray, List.set_cons_zero, List.set_cons_succ]
      go_simp
    try simp only [Act.put, List.getElem_toArray, List.getElem_cons_succ, List.getElem_cons_zero, List.setIfInBounds_toArray, List.set_cons_zero, List.set_cons_succ]
    refine wpAnyH_take (i := 11) (v := .int .i64 0) rfl (by kernel_rfl) (by kernel_rfl) (by kernel_rfl) (fun _ _ _ h => h) (Or.inl ⟨by rfl, ?_⟩) hHeld ?_
    · intro w' hSw
      try simp only [Act.put, List.getElem_toArray, List.getElem_cons_succ, List.getElem_cons_zero, List.setIfInBounds_toArray, List.set_cons_zero, List.set_cons_succ]
      go_simp
    try simp only [Act.put, List.getElem_toArray, List.getElem_cons_succ, List.getElem_cons_zero, List.setIfInBounds_toArray, List.set_cons_zero, List.set_cons_succ]
    refine wpAnyH_take (i := 12) (v := .int .i64 pp) rfl (by kernel_rfl) (by kernel_rfl) (by kernel_rfl) (fun _ _ _ h => h) (Or.inl ⟨by rfl, ?_⟩) hHeld ?_
    · intro w' hSw
      try simp only [Act.put, List.getElem_toArray, List.getElem_cons_succ, List.getElem_cons_zero, List.setIfInBounds_toArray, List.set_cons_zero, List.set_cons_succ]
      go_simp
    try simp only [Act.put, List.getElem_toArray, List.getElem_cons_succ, List.getElem_cons_zero, List.setIfInBounds_toArray, List.set_cons_zero, List.set_cons_succ]
    refine wpAnyH_take (i := 13) (v := .int .i64 0) rfl (by kernel_rfl) (by kernel_rfl) (by kernel_rfl) (fun _ _ _ h => h) (Or.inl ⟨by rfl, ?_⟩) hHeld ?_
    · intro w' hSw
      try simp only [Act.put, List.getElem_toArray, List.getElem_cons_succ, List.getElem_cons_zero, List.setIfInBounds_toArray, List.set_cons_zero, List.set_cons_succ]
      go_simp
    try simp only [Act.put, List.getElem_toArray, List.getElem_cons_succ, List.getElem_cons_zero, List.setIfInBounds_toArray, List.set_cons_zero, List.set_cons_succ]
    clear hHeld
    refine wpAnyH_done (by kernel_rfl) ?_ _
    clear e0 e1 e2 g0 g1 g2
    go_wp2_with fail
    refine (HLV.out _ HT4.out).out.mono ?_
    rintro e w5 ⟨rfl, t5⟩
    have HT5 : Hid (Touch w w5 []) := (HTX.out.trans HT4.out (by simp)).trans t5 (by simp)
    clear t5
    go_wp2
    go_ret
    exact ⟨rfl, HT5.out⟩
  · have hq0 := HM.out.2 hE0
    clear HM HG4 HC3
    go_wp2_with fail
    refine (HLV.out _ HTw2.out).out.mono ?_
    rintro e w5 ⟨rfl, t5⟩
    have HT5 : Hid (Touch w w5 []) := (HTX.out.trans HTw2.out (by simp)).trans t5 (by simp)
    clear t5
    go_wp2
    go_ret
    exact ⟨rfl, HT5.out⟩

end Go.Proofs.YtcbkafbchpjnoaaGreatDoor
/-
  The six statements on code: from the row's condition (the tables, the errors and code.words read as they are laid) to what the walks ask; from an argument's reading to instructions.
-/
namespace Go.Proofs.YtcbkafbchpjnoaaGreatDoor
set_option linter.unusedVariables false
set_option linter.unusedSimpArgs false
open Go.ChangeShapes Go.WideShapes Go.ChangeAt Go.RowKit Go.Joins Go.Deep

theorem Tryz.own : ownKnob Tryz.prog.godebug = none := by kernel_rfl
theorem Tryz.laidOut : laidOutB Tryz.prog = true := by kernel_rfl
theorem Tryz.gWords : Tryz.prog.globalNamed "rowlock/code.words" = some 1 := by kernel_rfl
theorem Tryz.tWords : (Tryz.prog.globals[1]?).map (·.type) = some 201 := by kernel_rfl
theorem Tryz.cells_string : Tryz.prog.cellsOf 9 = 1 := by kernel_rfl
theorem Tryz.cells_ins : Tryz.prog.cellsOf 78 = 3 := by kernel_rfl
theorem Tryz.cells_op : Tryz.prog.cellsOf 76 = 1 := by kernel_rfl
theorem Tryz.cells_int0 : Tryz.prog.cellsOf 3 = 1 := by kernel_rfl
theorem Tryz.cells_val : Tryz.prog.cellsOf 50 = 1 := by kernel_rfl

/-- What the rows list. -/
def laid6 : List (String × DataW Unit) := [("math/bits.deBruijn32tab", Rows.laid_math_bits_deBruijn32tab), ("math/bits.deBruijn64tab", Rows.laid_math_bits_deBruijn64tab), ("internal/strconv.uint64pow10", Rows.laid_internal_strconv_uint64pow10), ("strconv.ErrRange", Rows.laid_strconv_ErrRange), ("strconv.ErrSyntax", Rows.laid_strconv_ErrSyntax), ("rowlock/code.words", Rows.laid_rowlock_code_words)]

theorem laidMet_tail {P : Program} {x : String × DataW Unit} {rest : List (String × DataW Unit)} {w : World} (h : laidMet P (x :: rest) w) : laidMet P rest w := by
  obtain ⟨ps, ⟨g, t, cs, fuel, p, q, _, _, _, _, hrest, rfl⟩, hnd, hc⟩ := h
  exact ⟨q, hrest, (List.nodup_append.1 hnd).2.1, fun b off hm => hc b off (List.mem_append_right _ hm)⟩

def wordsD : List (DataW Unit) := wordsB.map fun s => .lit (.string s)
theorem words_laid : Rows.laid_rowlock_code_words = (.agg wordsD : DataW Unit) := rfl
theorem wordsB_len : wordsB.length = 29 := by decide
theorem wordsD_at (k : Nat) (hk : k < 29) : wordsD[k]? = some (.lit (.string (wordsB.getD k []))) := by
  have h : k < wordsB.length := by rw [wordsB_len]; exact hk
  unfold wordsD
  rw [List.getElem?_map, List.getElem?_eq_getElem h, List.getD, List.getElem?_eq_getElem h]
  rfl

theorem wds_of_laid {W : World} (h : laidMetH Tryz.prog laid6 W) : Wds W := by
  rw [MakeChecks.laidMetH_plain _ _ _ (by kernel_rfl)] at h
  obtain ⟨ps, ⟨g', t', cs, fuel, p, q, hg', ht', hvar, hd, _, _⟩, _⟩ := laidMet_tail (laidMet_tail (laidMet_tail (laidMet_tail (laidMet_tail h))))
  obtain rfl := Option.some.inj (Tryz.gWords.symm.trans hg')
  obtain rfl := Option.some.inj (Tryz.tWords.symm.trans ht')
  obtain ⟨xs, m, _, hx, hl, hxl, hel⟩ := DataW.trod_array Tryz.underlying201 hd
  have key : ∀ k, k < 29 → W.cell? ⟨1, k, none⟩ = some (.string (wordB k)) := fun k hk => by
    have h28 := hel k hk
    rw [Tryz.cells_string] at h28
    have hd28 : (xs.map (·.1))[k]? = some (.lit (.string (wordsB.getD k []))) := by
      have := congrArg Prod.fst hx
      rw [words_laid] at this
      simp only [DataW.agg.injEq] at this
      rw [← this]
      exact wordsD_at k hk
    rw [List.getElem?_map, Option.map_eq_some_iff] at hd28
    obtain ⟨y, hy, ey⟩ := hd28
    rw [hy] at h28
    obtain ⟨s, hc, e, _⟩ := DataW.trod_string Tryz.underlying9 h28
    have hs : s = wordB k := by
      rw [e] at ey
      simp only [DataW.lit.injEq, Lit.string.injEq] at ey
      apply ba_ext
      unfold wordB
      simpa using ey
    have h1 : cs[k]? = some (.string s) := by
      have := congrArg (·[0]?) hc
      simpa [List.getElem?_take, List.getElem?_drop] using this
    rw [World.var?_cell Tryz.gWords hvar k, h1, hs]
  exact ⟨World.block_lt_of_cell? W _ (key 0 (by omega)), key⟩

/-- The door's own heap meets the condition. -/
theorem door_met (os : Os) (args : Array Value) : laidMetH Tryz.prog laid6 ((World.doorLaid Tryz.prog 5000 os).forCall (fun _ _ => 0) ⟨#[], args, []⟩).memory :=
  laidMetH_of_parts3 (fuel := 8) (laidMet_of_run' 8 (by kernel_rfl) (by kernel_rfl)) (by kernel_rfl) (by kernel_rfl)

theorem str_lim {t : ByteArray} (h : t.data.toList.length ≤ reachBytes) : t.size ≤ 281474976710656 := by
  have := reachBytes_lt
  rw [Lib.size_eq]
  omega
theorem ins_wf {o a v : Int} (h0 : (Lit.int .u8 o).wf = true) (h1 : (Lit.int .i64 a).wf = true) (h2 : (Lit.int .u64 v).wf = true) : (InsD.mk o a v).Wf := by
  simp [Lit.wf, IntKind.min, IntKind.max, IntKind.signed, IntKind.bits] at h0 h1 h2
  exact ⟨by simp only; omega, by simp only; omega, by unfold Wf64; simp only; omega⟩

set_option maxRecDepth 100000 in
theorem ins_of_trod {H : Type} {enc : TypeId × Value → H} {w : World} {base : Nat} {spare : Nat → Bool} {held : Bool} {fuel : Nat} {cs : List Value} {x : DataW H × List MemPlace} (h : DataW.trod enc Tryz.prog w base spare held fuel 78 cs = some x) :
    ∃ o : InsD, o.Wf ∧ cs = o.cells := by
  obtain ⟨y0, y1, y2, n, _, hl, h0, h1, h2⟩ := trod_struct3 Tryz.underlying78 h
  rw [Tryz.cells_ins] at hl
  match cs, hl with
  | [c0, c1, c2], _ =>
    simp only [Tryz.cells_op, Tryz.cells_int0, Tryz.cells_val, List.drop_zero, List.drop_succ_cons, List.take_succ_cons, List.take_zero] at h0 h1 h2
    obtain ⟨k, e0, _, wk⟩ := DataW.trod_int Tryz.underlying76 h0
    obtain ⟨c, e1, _, wc⟩ := DataW.trod_int Tryz.underlying3 h1
    obtain ⟨a, e2, _, wa⟩ := DataW.trod_int Tryz.underlying50 h2
    simp at e0 e1 e2
    subst e0 e1 e2
    simp [Lit.wf, IntKind.min, IntKind.max, IntKind.signed, IntKind.bits] at wk wc wa
    exact ⟨⟨k, c, a⟩, ⟨by simp only; omega, by simp only; omega, by unfold Wf64; simp only; omega⟩, rfl⟩

theorem inss_of_trod {H : Type} {enc : TypeId × Value → H} {W : World} {ao : Option Addr} {len cap : Nat} {d : DataW H} {p : List MemPlace} (h : DataW.Trod enc Tryz.prog W 0 (fun _ => true) true 25 (.slice ao len cap) d p) :
    ∃ l : List InsD, InsRowC W (.slice ao len cap) l ∧ (∀ o ∈ l, o.Wf) ∧ l.length ≤ maxLen :=
  rows_of_trod (α := InsD) (n := 3) (cells := InsD.cells) (Wf := InsD.Wf) ⟨0, 0, 0⟩ (by decide) (fun _ => rfl) Tryz.underlying25 Tryz.cells_ins (fun h => ins_of_trod h) h

end Go.Proofs.YtcbkafbchpjnoaaGreatDoor
/-
  The statements on calls: the arguments.
-/
namespace Go.Proofs.YtcbkafbchpjnoaaGreatDoor
set_option linter.unusedVariables false
set_option linter.unusedSimpArgs false
set_option maxRecDepth 100000
open Go.ChangeShapes Go.WideShapes Go.ChangeAt Go.RowKit Go.Joins Go.Deep

theorem Tryz.cells_call : Tryz.prog.cellsOf 52 = 3 := by kernel_rfl
theorem Tryz.cells_callkind : Tryz.prog.cellsOf 48 = 1 := by kernel_rfl
theorem Tryz.cells_threei : Tryz.prog.cellsOf 23 = 3 := by kernel_rfl
theorem clwf_u8 {n : Int} (h : (Lit.int .u8 n).wf = true) : 0 ≤ n ∧ n ≤ 255 := by
  simp [Lit.wf, IntKind.min, IntKind.max, IntKind.signed, IntKind.bits] at h
  omega
theorem clwf_i64 {n : Int} (h : (Lit.int .i64 n).wf = true) : -9223372036854775808 ≤ n ∧ n ≤ 9223372036854775807 := by
  simp [Lit.wf, IntKind.min, IntKind.max, IntKind.signed, IntKind.bits] at h
  omega
theorem array3c {α : Type} {cs : Array α} (h : cs.size = 3) : ∃ c0 c1 c2, cs = #[c0, c1, c2] := by
  obtain ⟨l⟩ := cs
  match l, h with
  | [c0, c1, c2], _ => exact ⟨c0, c1, c2, rfl⟩

/-- Three numbers, by value. -/
theorem threei_of_trod {H : Type} {enc : TypeId × Value → H} {W : World} {r : Reach} {b0 : Nat} {v : Value} {d : DataW H} {p : List MemPlace} (hv : Value.okWide Tryz.prog W r b0 23 v) (h : DataW.Trod enc Tryz.prog W 0 (fun _ => true) true 23 v d p) :
    ∃ h0 h1 h2 : Int, v = .agg #[.int .i64 h0, .int .i64 h1, .int .i64 h2] := by
  have hu := Tryz.underlying23
  simp only [Value.okWide, hu] at hv
  obtain ⟨cs, rfl, hsz, _⟩ := hv
  obtain ⟨c0, c1, c2, rfl⟩ := array3c (hsz.trans Tryz.cells_threei)
  obtain ⟨fuel, hf⟩ := h
  obtain ⟨xs, m, _, _, _, hlen, hx⟩ := DataW.trod_array hu hf
  rw [Tryz.cells_int0] at hx
  have key : ∀ i, i < 3 → ∃ n : Int, (((Value.agg #[c0, c1, c2]).cells.toList.drop (i * 1)).take 1) = [.int .i64 n] := fun i hi => by
    have h1 := hx i hi
    obtain ⟨y, hy⟩ : ∃ y, xs[i]? = some y := ⟨xs[i], List.getElem?_eq_getElem (by omega)⟩
    rw [hy] at h1
    obtain ⟨k, e0, _, wk⟩ := DataW.trod_int Tryz.underlying3 h1
    exact ⟨k, e0⟩
  obtain ⟨n0, e0⟩ := key 0 (by omega)
  obtain ⟨n1, e1⟩ := key 1 (by omega)
  obtain ⟨n2, e2⟩ := key 2 (by omega)
  simp [Value.cells] at e0 e1 e2
  subst e0 e1 e2
  exact ⟨n0, n1, n2, rfl⟩

theorem call_of_trod {H : Type} {enc : TypeId × Value → H} {w : World} {base : Nat} {spare : Nat → Bool} {held : Bool} {fuel : Nat} {cs : List Value} {x : DataW H × List MemPlace} (h : DataW.trod enc Tryz.prog w base spare held fuel 52 cs = some x) :
    ∃ o : CaD, o.Wf ∧ cs = o.cells := by
  obtain ⟨y0, y1, y2, n, _, hl, h0, h1, h2⟩ := trod_struct3 Tryz.underlying52 h
  rw [Tryz.cells_call] at hl
  match cs, hl with
  | [c0, c1, c2], _ =>
    simp only [Tryz.cells_callkind, Tryz.cells_int0, Tryz.cells_val, List.drop_zero, List.drop_succ_cons, List.take_succ_cons, List.take_zero] at h0 h1 h2
    obtain ⟨k, e0, _, wk⟩ := DataW.trod_int Tryz.underlying48 h0
    obtain ⟨c, e1, _, wc⟩ := DataW.trod_int Tryz.underlying3 h1
    obtain ⟨a, e2, _, wa⟩ := DataW.trod_int Tryz.underlying50 h2
    simp at e0 e1 e2
    subst e0 e1 e2
    simp [Lit.wf, IntKind.min, IntKind.max, IntKind.signed, IntKind.bits] at wk wc wa
    exact ⟨⟨k, c, a⟩, ⟨by simp only; omega, by simp only; omega, by unfold Wf64; simp only; omega⟩, rfl⟩

theorem calls_of_trod {H : Type} {enc : TypeId × Value → H} {W : World} {ao : Option Addr} {len cap : Nat} {d : DataW H} {p : List MemPlace} (h : DataW.Trod enc Tryz.prog W 0 (fun _ => true) true 24 (.slice ao len cap) d p) :
    ∃ l : List CaD, SRow 3 CaD.cells W (.slice ao len cap) l ∧ (∀ o ∈ l, o.Wf) ∧ l.length ≤ maxLen :=
  rows_of_trod (α := CaD) (n := 3) (cells := CaD.cells) (Wf := CaD.Wf) ⟨0, 0, 0⟩ (by decide) (fun _ => rfl) Tryz.underlying24 Tryz.cells_call (fun h => call_of_trod h) h
theorem casIn_of {W : World} {ao : Option Addr} {cap : Nat} {l : List CaD} (hr : SRow 3 CaD.cells W (.slice ao l.length cap) l) (hw : ∀ o ∈ l, o.Wf) (hc : l.length ≤ cap) : CasIn W ao l.length cap l := ⟨rfl, hr, hc, hw⟩

end Go.Proofs.YtcbkafbchpjnoaaGreatDoor
