/-
  The document's objects and blocks of calls BY THEIR CONTRACTS. Written by mkclr.py.
-/
import Derived.Test.YtcbkafbchpjnoaaGreatDoorClPro
namespace Go.Proofs.YtcbkafbchpjnoaaGreatDoor
set_option linter.unusedVariables false
set_option linter.unusedSimpArgs false
open Go.RowKit
attribute [local go_sem] Oper.semAt_some

/-- An object of the document's, as it is made. -/
structure RoN (w : World) (b : Nat) (k n : Int) : Prop where
  st : w.heap[b]? = some (.cells #[.int .u8 k, .int .i64 n, .int .i64 (-1), .int .i64 (if k = 2 then n else 0), .int .i64 0, .slice none 0 0] 93 (0, 0))
theorem RoN.touch {w w' : World} {b : Nat} {k n : Int} {S : List Nat} (h : RoN w b k n) (t : Touch w w' S) (hS : b ∉ S) : RoN w' b k n := ⟨(t.block b (lt_of_heap h.st) hS).trans h.st⟩
def RnP (w : World) (k n : Int) (e : Ending) (w' : World) : Prop := (okO k n = true ∧ ∃ b, e = .returned (.pointer (some ⟨b, 0, none⟩)) ∧ RoN w' b k n ∧ w.heap.size ≤ b ∧ Touch w w' []) ∨ (okO k n = false ∧ e = .returned (.pointer none) ∧ Touch w w' [])

set_option maxRecDepth 100000 in
set_option maxHeartbeats 2000000 in
theorem rnewC_any (k n : Int) (w : World) : Calls Tryz.prog 22 #[.int .u8 k, .int .i64 n] w (RnP w k n) := by
  have hb : (w.alloc (.cells #[.int .u8 k, .int .i64 n, .int .i64 (-1), .int .i64 0, .int .i64 0, .slice none 0 0] 93)).heap[w.heap.size]? = some (.cells #[.int .u8 k, .int .i64 n, .int .i64 (-1), .int .i64 0, .int .i64 0, .slice none 0 0] 93 (0, 0)) := heap_alloc_new w _
  have f3 : (w.alloc (.cells #[.int .u8 k, .int .i64 n, .int .i64 (-1), .int .i64 0, .int .i64 0, .slice none 0 0] 93)).frozen? ⟨w.heap.size, 3, none⟩ = false := by unfold World.frozen?; rw [hb]; simp
  have x3 : (w.alloc (.cells #[.int .u8 k, .int .i64 n, .int .i64 (-1), .int .i64 0, .int .i64 0, .slice none 0 0] 93)).cell? ⟨w.heap.size, 3, none⟩ = some (.int .i64 0) := by unfold World.cell?; rw [hb]; rfl
  have HB : Hid _ := hb
  have HT : Hid (Touch w (w.alloc (.cells #[.int .u8 k, .int .i64 n, .int .i64 (-1), .int .i64 0, .int .i64 0, .slice none 0 0] 93)) []) := (Touch.refl w []).alloc _
  clear hb
  rcases size_ways k n with ⟨rfl, rfl⟩ | ⟨rfl, h1⟩ | ⟨rfl, h1⟩ | ⟨rfl, h1, h2⟩ | ⟨rfl, h1⟩ | ⟨rfl, h1⟩ | ⟨rfl, h1, h2⟩ | ⟨rfl, h1⟩ | ⟨rfl, h1⟩ | ⟨rfl, h1, h2⟩ | ⟨rfl, h1⟩ | ⟨h1, h2, h3, h4⟩
  all_goals
    try have q0 : (n == 0) = false := by simp; omega
    try have q1 : decide (n ≥ 0) = true := decide_eq_true (by omega)
    try have q1 : decide (n ≥ 0) = false := decide_eq_false (by omega)
    try have q2 : decide (n ≤ 9) = true := decide_eq_true (by omega)
    try have q2 : decide (n ≤ 9) = false := decide_eq_false (by omega)
    try have q3 : decide (n ≥ 1) = true := decide_eq_true (by omega)
    try have q3 : decide (n ≥ 1) = false := decide_eq_false (by omega)
    try have q4 : decide (n ≤ 4) = true := decide_eq_true (by omega)
    try have q4 : decide (n ≤ 4) = false := decide_eq_false (by omega)
    go_enter Tryz.func22, Tryz.ntmps22
    go_wp2
    first
    | (refine bodyPost_ret (v := .pointer none) (by simp [results, Tryz.results22, go_sem]) rfl (.inr ⟨?_, rfl, ?_⟩)
       · unfold okO; simp_all <;> omega
       · first | exact HT.out | exact (Touch.refl _ _).alloc _)
    | (go_ret
       refine .inl ⟨?_, w.heap.size, rfl, ⟨?_⟩, Nat.le_refl _, ?_⟩
       · unfold okO; simp_all <;> omega
       · first | exact HB.out | exact heap_alloc_new w _
       · first | exact HT.out | exact (Touch.refl _ _).alloc _)

theorem RoN.cells {w : World} {b : Nat} {k n : Int} (h : RoN w b k n) : w.cell? ⟨b, 0, none⟩ = some (.int .u8 k) ∧ w.cell? ⟨b, 1, none⟩ = some (.int .i64 n) ∧ w.cell? ⟨b, 2, none⟩ = some (.int .i64 (-1)) ∧ w.cell? ⟨b, 3, none⟩ = some (.int .i64 (if k = 2 then n else 0)) ∧ w.cell? ⟨b, 4, none⟩ = some (.int .i64 0) ∧ w.cell? ⟨b, 5, none⟩ = some (.slice none 0 0) := by
  refine ⟨?_, ?_, ?_, ?_, ?_, ?_⟩ <;> (unfold World.cell?; rw [h.st]; rfl)
set_option maxRecDepth 100000 in
theorem rtakesC_any {w : World} {b : Nat} {k n : Int} (hk : k = 1 ∨ k = 2 ∨ k = 3 ∨ k = 4) (h : RoN w b k n) (c : Int) :
    Calls Tryz.prog 31 #[.pointer (some ⟨b, 0, none⟩), .int .u8 c] w fun e w' => e = .returned (.bool (tksP k c)) ∧ w = w' := by
  obtain ⟨x0, x1, x2, x3, x4, x5⟩ := h.cells
  clear h
  generalize (if k = 2 then n else 0 : Int) = q at x3
  unfold tksP
  rcases hk with rfl | rfl | rfl | rfl
  · rcases (show c = 1 ∨ c = 2 ∨ (c ≠ 1 ∧ c ≠ 2) by omega) with rfl | rfl | ⟨h1, h2⟩
    all_goals
      go_enter Tryz.func31, Tryz.ntmps31
      go_wp2
      go_ret
      refine ⟨?_, rfl⟩
      congr 2
      try simp_all
  · rcases (show c = 3 ∨ c = 4 ∨ (c ≠ 3 ∧ c ≠ 4) by omega) with rfl | rfl | ⟨h1, h2⟩
    all_goals
      go_enter Tryz.func31, Tryz.ntmps31
      go_wp2
      go_ret
      refine ⟨?_, rfl⟩
      congr 2
      try simp_all
  · rcases (show c = 5 ∨ c = 6 ∨ (c ≠ 5 ∧ c ≠ 6) by omega) with rfl | rfl | ⟨h1, h2⟩
    all_goals
      go_enter Tryz.func31, Tryz.ntmps31
      go_wp2
      go_ret
      refine ⟨?_, rfl⟩
      congr 2
      try simp_all
  · rcases (show c = 7 ∨ c = 8 ∨ (c ≠ 7 ∧ c ≠ 8) by omega) with rfl | rfl | ⟨h1, h2⟩
    all_goals
      go_enter Tryz.func31, Tryz.ntmps31
      go_wp2
      go_ret
      refine ⟨?_, rfl⟩
      congr 2
      try simp_all

theorem fitC_is (c : CaD) : fitC c = (rightB c.v && (decide (c.k = 5) || (decide (c.k = 8) || decide (c.v = 0)))) := by
  unfold fitC
  by_cases h5 : c.k = 5
  · rw [if_pos (.inl h5)]; simp [h5]
  · by_cases h8 : c.k = 8
    · rw [if_pos (.inr h8)]; simp [h8]
    · rw [if_neg (by omega)]
      by_cases h0 : c.v = 0
      · rw [h0, show rightB 0 = true by decide +kernel]; simp
      · simp [h5, h8, h0]

set_option maxRecDepth 100000 in
theorem rfits_any (c : CaD) (hv : Wf64 c.v) (w : World) : Calls Tryz.prog 32 #[c.val] w fun e w' => e = .returned (.bool (fitC c)) ∧ Touch w w' [] := by
  rw [fitC_is]
  obtain ⟨k, u, v⟩ := c
  unfold CaD.val
  simp only at hv ⊢
  have HB := BoxK.new w k u v
  obtain ⟨x0, x1, x2⟩ := HB.cells
  have HT : Hid (Touch w (w.alloc (.cells #[.int .u8 k, .int .i64 u, .int .u64 v] 52)) []) := (Touch.refl w []).alloc _
  have HR : HidC _ _ _ _ _ := ⟨rright_any v hv (w.alloc (.cells #[.int .u8 k, .int .i64 u, .int .u64 v] 52))⟩
  clear HB hv
  generalize rightB v = rb at *
  cases rb with
  | false =>
    go_enter Tryz.func32, Tryz.ntmps32
    go_wp2_with fail
    refine HR.out.mono ?_
    clear HR
    rintro e _ ⟨rfl, rfl⟩
    go_wp2
    go_ret
    exact ⟨rfl, HT.out⟩
  | true =>
    by_cases h5 : k = 5
    · subst h5
      go_enter Tryz.func32, Tryz.ntmps32
      go_wp2_with fail
      refine HR.out.mono ?_
      clear HR
      rintro e _ ⟨rfl, rfl⟩
      go_wp2
      go_ret
      exact ⟨rfl, HT.out⟩
    · have k5 : (k == 5) = false := by simpa using h5
      by_cases h8 : k = 8
      · subst h8
        go_enter Tryz.func32, Tryz.ntmps32
        go_wp2_with fail
        refine HR.out.mono ?_
        clear HR
        rintro e _ ⟨rfl, rfl⟩
        go_wp2
        go_ret
        exact ⟨rfl, HT.out⟩
      · have k8 : (k == 8) = false := by simpa using h8
        have hz : (v == 0) = decide (v = 0) := by by_cases h : v = 0 <;> simp [h]
        have HZ : Hid (decide (v = 0) = (true && (decide (k = 5) || (decide (k = 8) || decide (v = 0))))) := by show _ = _; simp [h5, h8]
        generalize (true && (decide (k = 5) || (decide (k = 8) || decide (v = 0)))) = Z at *
        generalize decide (v = 0) = zb at *
        go_enter Tryz.func32, Tryz.ntmps32
        go_wp2_with fail
        refine HR.out.mono ?_
        clear HR
        rintro e _ ⟨rfl, rfl⟩
        go_wp2
        go_ret
        exact ⟨by rw [← HZ.out]; rfl, HT.out⟩

set_option maxRecDepth 100000 in
theorem rtvars_any (k n : Int) (w : World) : Calls Tryz.prog 18 #[.int .u8 k, .int .i64 n] w fun e w' => e = .returned (.int .i64 (tvN k n)) ∧ Touch w w' [] := by
  have HC : HidC _ _ _ _ _ := ⟨rnewC_any k n w⟩
  cases ho : okO k n with
  | false =>
    have HE : Hid (tvN k n = 0) := by show _ = _; unfold tvN; rw [ho]; rfl
    go_enter Tryz.func18, Tryz.ntmps18
    go_wp2_with fail
    refine HC.out.mono ?_
    clear HC
    rintro e w1 (⟨h, b, rfl, ha, hb, t⟩ | ⟨h, rfl, t⟩)
    · rw [ho] at h; cases h
    · have HT : Hid _ := t
      clear t
      go_wp2
      go_ret
      exact ⟨by rw [HE.out]; rfl, HT.out⟩
  | true =>
    have hw := (okO_is k n).1 ho
    have HE : Hid (tvN k n = if k = 3 then n + 2 else if k = 4 then 2 else 1) := by show _ = _; unfold tvN; rw [ho]; rfl
    have hk := okO_kinds ho
    rcases hk with rfl | rfl | rfl | rfl
    all_goals
      first
      | (have h3 : 1 ≤ n ∧ n ≤ 4 := by omega
         have w3 : IntKind.i64.wrap (n + 2) = n + 2 := by rw [IntKind.wrap_i64]; omega)
      | skip
      clear hw
      go_enter Tryz.func18, Tryz.ntmps18
      go_wp2_with fail
      refine HC.out.mono ?_
      clear HC
      rintro e w1 (⟨h, b, rfl, ha, hb, t⟩ | ⟨h, rfl, t⟩)
      · have HT : Hid _ := t
        clear t h ha
        go_wp2
        go_ret
        refine ⟨?_, HT.out⟩
        rw [HE.out]
        rfl
      · rw [ho] at h; cases h

/-- The error of a call's block with what stands ahead of it. -/
def rbE (a : Int) (c : CaD) : Int := if a + ((ahdC c).length + lenC c.k : Nat) > 64 then 4 else 0
def rbL (n t a : Int) (c : CaD) : List InsD := ahdC c ++ blkC n t (a + (ahdC c).length) c

set_option maxRecDepth 100000 in
theorem rblk_1 (w : World) (a : Int) (ha : 0 ≤ a ∧ a ≤ 64) (n t u v : Int) (h : CkOk n t ⟨1, u, v⟩) :
    Calls Tryz.prog 33 #[.int .i64 a, .int .i64 n, .int .i64 t, .agg #[.int .u8 1, .int .i64 u, .int .u64 v]] w (LkP w (rbE a ⟨1, u, v⟩) (rbL n t a ⟨1, u, v⟩)) := by
  have hv := h.hv
  simp only at hv
  have hc := rlock_any a t u (w.alloc (.cells #[.int .u8 1, .int .i64 u, .int .u64 v] 52))
  rw [blkE_1 a ha n t u v h] at hc
  have e : rbL n t a ⟨1, u, v⟩ = blkL a (lockB t u) := by unfold rbL; rw [show ahdC ⟨1, u, v⟩ = [] from rfl]; simp only [List.nil_append, List.length_nil, Int.natCast_zero, Int.add_zero]; rfl
  rw [e]
  have e2 : rbE a ⟨1, u, v⟩ = blkCE a 1 := by unfold rbE blkCE; rw [show ahdC ⟨1, u, v⟩ = [] from rfl]; simp only [List.length_nil, Nat.zero_add]
  rw [e2]
  have hp := BoxK.new w 1 u v
  have HT0 : Hid (Touch w (w.alloc (.cells #[.int .u8 1, .int .i64 u, .int .u64 v] 52)) []) := (Touch.refl w []).alloc _
  generalize blkL a (lockB t u) = RL at *
  generalize blkCE a 1 = E at *
  have HC : HidC _ _ _ _ _ := ⟨hc⟩
  obtain ⟨x0, x1, x2⟩ := hp.cells
  clear hc h hp hv ha e e2
  go_enter Tryz.func33, Tryz.ntmps33
  go_wp2_with fail
  refine HC.out.mono ?_
  clear HC
  rintro e w1 (⟨h1, ao, cp, rfl, hi, t1⟩ | ⟨h1, rfl, t1⟩)
  · have HI : Hid _ := hi
    have HT : Hid (Touch w w1 []) := HT0.out.trans t1 (by simp)
    have H1 : Hid _ := h1
    clear hi t1 h1
    go_wp2
    exact bodyPost_ret (v := .tuple #[.slice ao RL.length cp, .int .i64 0]) (by simp [results, Tryz.results33, go_sem]) rfl (.inl ⟨H1.out, ao, cp, rfl, HI.out, HT.out⟩)
  · have HT : Hid (Touch w w1 []) := HT0.out.trans t1 (by simp)
    have H1 : Hid _ := h1
    clear t1 h1
    go_wp2
    exact bodyPost_ret (v := .tuple #[.slice none 0 0, .int .i64 E]) (by simp [results, Tryz.results33, go_sem]) rfl (.inr ⟨H1.out, rfl, HT.out⟩)

set_option maxRecDepth 100000 in
theorem rblk_2 (w : World) (a : Int) (ha : 0 ≤ a ∧ a ≤ 64) (n t u v : Int) (h : CkOk n t ⟨2, u, v⟩) :
    Calls Tryz.prog 33 #[.int .i64 a, .int .i64 n, .int .i64 t, .agg #[.int .u8 2, .int .i64 u, .int .u64 v]] w (LkP w (rbE a ⟨2, u, v⟩) (rbL n t a ⟨2, u, v⟩)) := by
  have hv := h.hv
  simp only at hv
  have hc := runlock_any a t u (w.alloc (.cells #[.int .u8 2, .int .i64 u, .int .u64 v] 52))
  rw [blkE_2 a ha n t u v h] at hc
  have e : rbL n t a ⟨2, u, v⟩ = blkL a (unlockB t u) := by unfold rbL; rw [show ahdC ⟨2, u, v⟩ = [] from rfl]; simp only [List.nil_append, List.length_nil, Int.natCast_zero, Int.add_zero]; rfl
  rw [e]
  have e2 : rbE a ⟨2, u, v⟩ = blkCE a 2 := by unfold rbE blkCE; rw [show ahdC ⟨2, u, v⟩ = [] from rfl]; simp only [List.length_nil, Nat.zero_add]
  rw [e2]
  have hp := BoxK.new w 2 u v
  have HT0 : Hid (Touch w (w.alloc (.cells #[.int .u8 2, .int .i64 u, .int .u64 v] 52)) []) := (Touch.refl w []).alloc _
  generalize blkL a (unlockB t u) = RL at *
  generalize blkCE a 2 = E at *
  have HC : HidC _ _ _ _ _ := ⟨hc⟩
  obtain ⟨x0, x1, x2⟩ := hp.cells
  clear hc h hp hv ha e e2
  go_enter Tryz.func33, Tryz.ntmps33
  go_wp2_with fail
  refine HC.out.mono ?_
  clear HC
  rintro e w1 (⟨h1, ao, cp, rfl, hi, t1⟩ | ⟨h1, rfl, t1⟩)
  · have HI : Hid _ := hi
    have HT : Hid (Touch w w1 []) := HT0.out.trans t1 (by simp)
    have H1 : Hid _ := h1
    clear hi t1 h1
    go_wp2
    exact bodyPost_ret (v := .tuple #[.slice ao RL.length cp, .int .i64 0]) (by simp [results, Tryz.results33, go_sem]) rfl (.inl ⟨H1.out, ao, cp, rfl, HI.out, HT.out⟩)
  · have HT : Hid (Touch w w1 []) := HT0.out.trans t1 (by simp)
    have H1 : Hid _ := h1
    clear t1 h1
    go_wp2
    exact bodyPost_ret (v := .tuple #[.slice none 0 0, .int .i64 E]) (by simp [results, Tryz.results33, go_sem]) rfl (.inr ⟨H1.out, rfl, HT.out⟩)

set_option maxRecDepth 100000 in
theorem rblk_3 (w : World) (a : Int) (ha : 0 ≤ a ∧ a ≤ 64) (n t u v : Int) (h : CkOk n t ⟨3, u, v⟩) :
    Calls Tryz.prog 33 #[.int .i64 a, .int .i64 n, .int .i64 t, .agg #[.int .u8 3, .int .i64 u, .int .u64 v]] w (LkP w (rbE a ⟨3, u, v⟩) (rbL n t a ⟨3, u, v⟩)) := by
  have hv := h.hv
  simp only at hv
  have hc := rdown_any a t (w.alloc (.cells #[.int .u8 3, .int .i64 u, .int .u64 v] 52))
  rw [blkE_3 a ha n t u v h] at hc
  have e : rbL n t a ⟨3, u, v⟩ = blkL a (downB t) := by unfold rbL; rw [show ahdC ⟨3, u, v⟩ = [] from rfl]; simp only [List.nil_append, List.length_nil, Int.natCast_zero, Int.add_zero]; rfl
  rw [e]
  have e2 : rbE a ⟨3, u, v⟩ = blkCE a 3 := by unfold rbE blkCE; rw [show ahdC ⟨3, u, v⟩ = [] from rfl]; simp only [List.length_nil, Nat.zero_add]
  rw [e2]
  have hp := BoxK.new w 3 u v
  have HT0 : Hid (Touch w (w.alloc (.cells #[.int .u8 3, .int .i64 u, .int .u64 v] 52)) []) := (Touch.refl w []).alloc _
  generalize blkL a (downB t) = RL at *
  generalize blkCE a 3 = E at *
  have HC : HidC _ _ _ _ _ := ⟨hc⟩
  obtain ⟨x0, x1, x2⟩ := hp.cells
  clear hc h hp hv ha e e2
  go_enter Tryz.func33, Tryz.ntmps33
  go_wp2_with fail
  refine HC.out.mono ?_
  clear HC
  rintro e w1 (⟨h1, ao, cp, rfl, hi, t1⟩ | ⟨h1, rfl, t1⟩)
  · have HI : Hid _ := hi
    have HT : Hid (Touch w w1 []) := HT0.out.trans t1 (by simp)
    have H1 : Hid _ := h1
    clear hi t1 h1
    go_wp2
    exact bodyPost_ret (v := .tuple #[.slice ao RL.length cp, .int .i64 0]) (by simp [results, Tryz.results33, go_sem]) rfl (.inl ⟨H1.out, ao, cp, rfl, HI.out, HT.out⟩)
  · have HT : Hid (Touch w w1 []) := HT0.out.trans t1 (by simp)
    have H1 : Hid _ := h1
    clear t1 h1
    go_wp2
    exact bodyPost_ret (v := .tuple #[.slice none 0 0, .int .i64 E]) (by simp [results, Tryz.results33, go_sem]) rfl (.inr ⟨H1.out, rfl, HT.out⟩)

set_option maxRecDepth 100000 in
theorem rblk_4 (w : World) (a : Int) (ha : 0 ≤ a ∧ a ≤ 64) (n t u v : Int) (h : CkOk n t ⟨4, u, v⟩) :
    Calls Tryz.prog 33 #[.int .i64 a, .int .i64 n, .int .i64 t, .agg #[.int .u8 4, .int .i64 u, .int .u64 v]] w (LkP w (rbE a ⟨4, u, v⟩) (rbL n t a ⟨4, u, v⟩)) := by
  have hv := h.hv
  simp only at hv
  have hc := rup_any a t (w.alloc (.cells #[.int .u8 4, .int .i64 u, .int .u64 v] 52))
  rw [blkE_4 a ha n t u v h] at hc
  have e : rbL n t a ⟨4, u, v⟩ = blkL a (upB t) := by unfold rbL; rw [show ahdC ⟨4, u, v⟩ = [] from rfl]; simp only [List.nil_append, List.length_nil, Int.natCast_zero, Int.add_zero]; rfl
  rw [e]
  have e2 : rbE a ⟨4, u, v⟩ = blkCE a 4 := by unfold rbE blkCE; rw [show ahdC ⟨4, u, v⟩ = [] from rfl]; simp only [List.length_nil, Nat.zero_add]
  rw [e2]
  have hp := BoxK.new w 4 u v
  have HT0 : Hid (Touch w (w.alloc (.cells #[.int .u8 4, .int .i64 u, .int .u64 v] 52)) []) := (Touch.refl w []).alloc _
  generalize blkL a (upB t) = RL at *
  generalize blkCE a 4 = E at *
  have HC : HidC _ _ _ _ _ := ⟨hc⟩
  obtain ⟨x0, x1, x2⟩ := hp.cells
  clear hc h hp hv ha e e2
  go_enter Tryz.func33, Tryz.ntmps33
  go_wp2_with fail
  refine HC.out.mono ?_
  clear HC
  rintro e w1 (⟨h1, ao, cp, rfl, hi, t1⟩ | ⟨h1, rfl, t1⟩)
  · have HI : Hid _ := hi
    have HT : Hid (Touch w w1 []) := HT0.out.trans t1 (by simp)
    have H1 : Hid _ := h1
    clear hi t1 h1
    go_wp2
    exact bodyPost_ret (v := .tuple #[.slice ao RL.length cp, .int .i64 0]) (by simp [results, Tryz.results33, go_sem]) rfl (.inl ⟨H1.out, ao, cp, rfl, HI.out, HT.out⟩)
  · have HT : Hid (Touch w w1 []) := HT0.out.trans t1 (by simp)
    have H1 : Hid _ := h1
    clear t1 h1
    go_wp2
    exact bodyPost_ret (v := .tuple #[.slice none 0 0, .int .i64 E]) (by simp [results, Tryz.results33, go_sem]) rfl (.inr ⟨H1.out, rfl, HT.out⟩)

set_option maxRecDepth 100000 in
theorem rblk_5 (w : World) (a : Int) (ha : 0 ≤ a ∧ a ≤ 64) (n t u v : Int) (h : CkOk n t ⟨5, u, v⟩) :
    Calls Tryz.prog 33 #[.int .i64 a, .int .i64 n, .int .i64 t, .agg #[.int .u8 5, .int .i64 u, .int .u64 v]] w (LkP w (rbE a ⟨5, u, v⟩) (rbL n t a ⟨5, u, v⟩)) := by
  have hv := h.hv
  simp only at hv
  have hc := renter_any a t n v hv (w.alloc (.cells #[.int .u8 5, .int .i64 u, .int .u64 v] 52))
  rw [blkE_5 a ha n t u v h] at hc
  have e : rbL n t a ⟨5, u, v⟩ = enterI a t n 0 v := by unfold rbL; rw [show ahdC ⟨5, u, v⟩ = [] from rfl]; simp only [List.nil_append, List.length_nil, Int.natCast_zero, Int.add_zero]; rfl
  rw [e]
  have e2 : rbE a ⟨5, u, v⟩ = blkCE a 5 := by unfold rbE blkCE; rw [show ahdC ⟨5, u, v⟩ = [] from rfl]; simp only [List.length_nil, Nat.zero_add]
  rw [e2]
  have hp := BoxK.new w 5 u v
  have HT0 : Hid (Touch w (w.alloc (.cells #[.int .u8 5, .int .i64 u, .int .u64 v] 52)) []) := (Touch.refl w []).alloc _
  generalize enterI a t n 0 v = RL at *
  generalize blkCE a 5 = E at *
  have HC : HidC _ _ _ _ _ := ⟨hc⟩
  obtain ⟨x0, x1, x2⟩ := hp.cells
  clear hc h hp hv ha e e2
  go_enter Tryz.func33, Tryz.ntmps33
  go_wp2_with fail
  refine HC.out.mono ?_
  clear HC
  rintro e w1 (⟨h1, ao, cp, rfl, hi, t1⟩ | ⟨h1, rfl, t1⟩)
  · have HI : Hid _ := hi
    have HT : Hid (Touch w w1 []) := HT0.out.trans t1 (by simp)
    have H1 : Hid _ := h1
    clear hi t1 h1
    go_wp2
    exact bodyPost_ret (v := .tuple #[.slice ao RL.length cp, .int .i64 0]) (by simp [results, Tryz.results33, go_sem]) rfl (.inl ⟨H1.out, ao, cp, rfl, HI.out, HT.out⟩)
  · have HT : Hid (Touch w w1 []) := HT0.out.trans t1 (by simp)
    have H1 : Hid _ := h1
    clear t1 h1
    go_wp2
    exact bodyPost_ret (v := .tuple #[.slice none 0 0, .int .i64 E]) (by simp [results, Tryz.results33, go_sem]) rfl (.inr ⟨H1.out, rfl, HT.out⟩)

set_option maxRecDepth 100000 in
theorem rblk_6 (w : World) (a : Int) (ha : 0 ≤ a ∧ a ≤ 64) (n t u v : Int) (h : CkOk n t ⟨6, u, v⟩) :
    Calls Tryz.prog 33 #[.int .i64 a, .int .i64 n, .int .i64 t, .agg #[.int .u8 6, .int .i64 u, .int .u64 v]] w (LkP w (rbE a ⟨6, u, v⟩) (rbL n t a ⟨6, u, v⟩)) := by
  have hv := h.hv
  simp only at hv
  have hc := rtake_any a t n (w.alloc (.cells #[.int .u8 6, .int .i64 u, .int .u64 v] 52))
  rw [blkE_6 a ha n t u v h] at hc
  have e : rbL n t a ⟨6, u, v⟩ = takeI a t n 0 0 := by unfold rbL; rw [show ahdC ⟨6, u, v⟩ = [] from rfl]; simp only [List.nil_append, List.length_nil, Int.natCast_zero, Int.add_zero]; rfl
  rw [e]
  have e2 : rbE a ⟨6, u, v⟩ = blkCE a 6 := by unfold rbE blkCE; rw [show ahdC ⟨6, u, v⟩ = [] from rfl]; simp only [List.length_nil, Nat.zero_add]
  rw [e2]
  have hp := BoxK.new w 6 u v
  have HT0 : Hid (Touch w (w.alloc (.cells #[.int .u8 6, .int .i64 u, .int .u64 v] 52)) []) := (Touch.refl w []).alloc _
  generalize takeI a t n 0 0 = RL at *
  generalize blkCE a 6 = E at *
  have HC : HidC _ _ _ _ _ := ⟨hc⟩
  obtain ⟨x0, x1, x2⟩ := hp.cells
  clear hc h hp hv ha e e2
  go_enter Tryz.func33, Tryz.ntmps33
  go_wp2_with fail
  refine HC.out.mono ?_
  clear HC
  rintro e w1 (⟨h1, ao, cp, rfl, hi, t1⟩ | ⟨h1, rfl, t1⟩)
  · have HI : Hid _ := hi
    have HT : Hid (Touch w w1 []) := HT0.out.trans t1 (by simp)
    have H1 : Hid _ := h1
    clear hi t1 h1
    go_wp2
    exact bodyPost_ret (v := .tuple #[.slice ao RL.length cp, .int .i64 0]) (by simp [results, Tryz.results33, go_sem]) rfl (.inl ⟨H1.out, ao, cp, rfl, HI.out, HT.out⟩)
  · have HT : Hid (Touch w w1 []) := HT0.out.trans t1 (by simp)
    have H1 : Hid _ := h1
    clear t1 h1
    go_wp2
    exact bodyPost_ret (v := .tuple #[.slice none 0 0, .int .i64 E]) (by simp [results, Tryz.results33, go_sem]) rfl (.inr ⟨H1.out, rfl, HT.out⟩)

set_option maxRecDepth 100000 in
theorem rblk_7 (w : World) (a : Int) (ha : 0 ≤ a ∧ a ≤ 64) (n t u v : Int) (h : CkOk n t ⟨7, u, v⟩) :
    Calls Tryz.prog 33 #[.int .i64 a, .int .i64 n, .int .i64 t, .agg #[.int .u8 7, .int .i64 u, .int .u64 v]] w (LkP w (rbE a ⟨7, u, v⟩) (rbL n t a ⟨7, u, v⟩)) := by
  have hv := h.hv
  simp only at hv
  have hc := rarrive_any a t n (w.alloc (.cells #[.int .u8 7, .int .i64 u, .int .u64 v] 52))
  rw [blkE_7 a ha n t u v h] at hc
  have e : rbL n t a ⟨7, u, v⟩ = arriveI a t n 0 0 := by unfold rbL; rw [show ahdC ⟨7, u, v⟩ = [] from rfl]; simp only [List.nil_append, List.length_nil, Int.natCast_zero, Int.add_zero]; rfl
  rw [e]
  have e2 : rbE a ⟨7, u, v⟩ = blkCE a 7 := by unfold rbE blkCE; rw [show ahdC ⟨7, u, v⟩ = [] from rfl]; simp only [List.length_nil, Nat.zero_add]
  rw [e2]
  have hp := BoxK.new w 7 u v
  have HT0 : Hid (Touch w (w.alloc (.cells #[.int .u8 7, .int .i64 u, .int .u64 v] 52)) []) := (Touch.refl w []).alloc _
  generalize arriveI a t n 0 0 = RL at *
  generalize blkCE a 7 = E at *
  have HC : HidC _ _ _ _ _ := ⟨hc⟩
  obtain ⟨x0, x1, x2⟩ := hp.cells
  clear hc h hp hv ha e e2
  go_enter Tryz.func33, Tryz.ntmps33
  go_wp2_with fail
  refine HC.out.mono ?_
  clear HC
  rintro e w1 (⟨h1, ao, cp, rfl, hi, t1⟩ | ⟨h1, rfl, t1⟩)
  · have HI : Hid _ := hi
    have HT : Hid (Touch w w1 []) := HT0.out.trans t1 (by simp)
    have H1 : Hid _ := h1
    clear hi t1 h1
    go_wp2
    exact bodyPost_ret (v := .tuple #[.slice ao RL.length cp, .int .i64 0]) (by simp [results, Tryz.results33, go_sem]) rfl (.inl ⟨H1.out, ao, cp, rfl, HI.out, HT.out⟩)
  · have HT : Hid (Touch w w1 []) := HT0.out.trans t1 (by simp)
    have H1 : Hid _ := h1
    clear t1 h1
    go_wp2
    exact bodyPost_ret (v := .tuple #[.slice none 0 0, .int .i64 E]) (by simp [results, Tryz.results33, go_sem]) rfl (.inr ⟨H1.out, rfl, HT.out⟩)

end Go.Proofs.YtcbkafbchpjnoaaGreatDoor
