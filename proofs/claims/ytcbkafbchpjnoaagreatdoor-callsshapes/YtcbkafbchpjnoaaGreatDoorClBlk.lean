/-
  package calls: a call's block BY ITS CONTRACT. Written by mkcl.py.
-/
import Derived.Test.YtcbkafbchpjnoaaGreatDoorClPiece
namespace Go.Proofs.YtcbkafbchpjnoaaGreatDoor
set_option linter.unusedVariables false
set_option linter.unusedSimpArgs false
open Go.RowKit
attribute [local go_sem] Oper.semAt_some

/-- What a call may be, for its block. -/
structure CkOk (n t : Int) (c : CaD) : Prop where
  hk : 1 ≤ c.k ∧ c.k ≤ 8
  ht : 0 ≤ t ∧ t ≤ 11
  hu : c.k ≤ 2 → 0 ≤ c.u ∧ c.u ≤ 3
  hq : c.k = 5 ∨ c.k = 6 → 1 ≤ n ∧ n ≤ 4 ∧ t ≤ 10 - n
  hb : c.k = 7 → 1 ≤ n ∧ n ≤ 4 ∧ t ≤ 10
  hl : c.k = 8 → t ≤ 10
  hv : Wf64 c.v
  hr : c.k = 5 → rightB c.v = true
def blkCE (a : Int) (k : Int) : Int := if a + (lenC k : Nat) > 64 then 4 else 0

theorem blkE_1 (a : Int) (ha : 0 ≤ a ∧ a ≤ 64) (n t u v : Int) (h : CkOk n t ⟨1, u, v⟩) : lockE a t u = blkCE a 1 := by
  have h1 := h.ht
  have h2 := h.hu (by show (1 : Int) ≤ 2; omega)
  try simp only at h2
  unfold blkCE
  unfold lockE mayP
  rw [if_pos (by simp only [Bool.and_eq_true, decide_eq_true_eq]; omega)]
  rfl
set_option maxRecDepth 100000 in
theorem blk1_1 {W : World} (hw : Wds W) (a : Int) (ha : 0 ≤ a ∧ a ≤ 64) (n t u v : Int) (h : CkOk n t ⟨1, u, v⟩) {p q r : Nat} (hp : BoxK W p 1 u v) (hq : W.cell? ⟨q, 0, none⟩ = some (.int .i64 t)) (hr : W.cell? ⟨r, 0, none⟩ = some (.int .i64 n)) :
    Calls Tryz.prog 86 #[.int .i64 a, .pointer (some ⟨p, 0, none⟩), .pointer (some ⟨q, 0, none⟩), .pointer (some ⟨r, 0, none⟩)] W (LkP W (blkCE a 1) (blkC n t a ⟨1, u, v⟩)) := by
  have hv := h.hv
  simp only at hv
  have hc := llock_any a t u W
  rw [blkE_1 a ha n t u v h] at hc
  have e : blkC n t a ⟨1, u, v⟩ = blkL a (lockB t u) := rfl
  rw [e]
  generalize blkL a (lockB t u) = RL at *
  generalize blkCE a 1 = E at *
  have HC : HidC _ _ _ _ _ := ⟨hc⟩
  obtain ⟨x0, x1, x2⟩ := hp.cells
  clear hc h hp hw hv ha e
  go_enter Tryz.func86, Tryz.ntmps86
  go_wp2_with fail
  refine HC.out.mono ?_
  clear HC
  rintro e w1 (⟨h1, ao, cp, rfl, hi, t1⟩ | ⟨h1, rfl, t1⟩)
  · have HI : Hid _ := hi
    have HT : Hid _ := t1
    have H1 : Hid _ := h1
    clear hi t1 h1
    skip
    go_wp2
    exact bodyPost_ret (v := .tuple #[.slice ao RL.length cp, .int .i64 0]) (by simp [results, Tryz.results86, go_sem]) rfl (.inl ⟨H1.out, ao, cp, rfl, HI.out, HT.out⟩)
  · have HT : Hid _ := t1
    have H1 : Hid _ := h1
    clear t1 h1
    go_wp2
    exact bodyPost_ret (v := .tuple #[.slice none 0 0, .int .i64 E]) (by simp [results, Tryz.results86, go_sem]) rfl (.inr ⟨H1.out, rfl, HT.out⟩)

theorem blkE_2 (a : Int) (ha : 0 ≤ a ∧ a ≤ 64) (n t u v : Int) (h : CkOk n t ⟨2, u, v⟩) : unlockE a t u = blkCE a 2 := by
  have h1 := h.ht
  have h2 := h.hu (by show (2 : Int) ≤ 2; omega)
  try simp only at h2
  unfold blkCE
  unfold unlockE mayP
  rw [if_pos (by simp only [Bool.and_eq_true, decide_eq_true_eq]; omega)]
  rfl
set_option maxRecDepth 100000 in
theorem blk1_2 {W : World} (hw : Wds W) (a : Int) (ha : 0 ≤ a ∧ a ≤ 64) (n t u v : Int) (h : CkOk n t ⟨2, u, v⟩) {p q r : Nat} (hp : BoxK W p 2 u v) (hq : W.cell? ⟨q, 0, none⟩ = some (.int .i64 t)) (hr : W.cell? ⟨r, 0, none⟩ = some (.int .i64 n)) :
    Calls Tryz.prog 86 #[.int .i64 a, .pointer (some ⟨p, 0, none⟩), .pointer (some ⟨q, 0, none⟩), .pointer (some ⟨r, 0, none⟩)] W (LkP W (blkCE a 2) (blkC n t a ⟨2, u, v⟩)) := by
  have hv := h.hv
  simp only at hv
  have hc := lunlock_any a t u W
  rw [blkE_2 a ha n t u v h] at hc
  have e : blkC n t a ⟨2, u, v⟩ = blkL a (unlockB t u) := rfl
  rw [e]
  generalize blkL a (unlockB t u) = RL at *
  generalize blkCE a 2 = E at *
  have HC : HidC _ _ _ _ _ := ⟨hc⟩
  obtain ⟨x0, x1, x2⟩ := hp.cells
  clear hc h hp hw hv ha e
  go_enter Tryz.func86, Tryz.ntmps86
  go_wp2_with fail
  refine HC.out.mono ?_
  clear HC
  rintro e w1 (⟨h1, ao, cp, rfl, hi, t1⟩ | ⟨h1, rfl, t1⟩)
  · have HI : Hid _ := hi
    have HT : Hid _ := t1
    have H1 : Hid _ := h1
    clear hi t1 h1
    skip
    go_wp2
    exact bodyPost_ret (v := .tuple #[.slice ao RL.length cp, .int .i64 0]) (by simp [results, Tryz.results86, go_sem]) rfl (.inl ⟨H1.out, ao, cp, rfl, HI.out, HT.out⟩)
  · have HT : Hid _ := t1
    have H1 : Hid _ := h1
    clear t1 h1
    go_wp2
    exact bodyPost_ret (v := .tuple #[.slice none 0 0, .int .i64 E]) (by simp [results, Tryz.results86, go_sem]) rfl (.inr ⟨H1.out, rfl, HT.out⟩)

theorem blkE_3 (a : Int) (ha : 0 ≤ a ∧ a ≤ 64) (n t u v : Int) (h : CkOk n t ⟨3, u, v⟩) : downE a t = blkCE a 3 := by
  have h1 := h.ht
  try simp only at h2
  unfold blkCE
  unfold downE mayP
  rw [if_pos (by simp only [Bool.and_eq_true, decide_eq_true_eq]; omega)]
  rfl
set_option maxRecDepth 100000 in
theorem blk1_3 {W : World} (hw : Wds W) (a : Int) (ha : 0 ≤ a ∧ a ≤ 64) (n t u v : Int) (h : CkOk n t ⟨3, u, v⟩) {p q r : Nat} (hp : BoxK W p 3 u v) (hq : W.cell? ⟨q, 0, none⟩ = some (.int .i64 t)) (hr : W.cell? ⟨r, 0, none⟩ = some (.int .i64 n)) :
    Calls Tryz.prog 86 #[.int .i64 a, .pointer (some ⟨p, 0, none⟩), .pointer (some ⟨q, 0, none⟩), .pointer (some ⟨r, 0, none⟩)] W (LkP W (blkCE a 3) (blkC n t a ⟨3, u, v⟩)) := by
  have hv := h.hv
  simp only at hv
  have hc := ldown_any a t W
  rw [blkE_3 a ha n t u v h] at hc
  have e : blkC n t a ⟨3, u, v⟩ = blkL a (downB t) := rfl
  rw [e]
  generalize blkL a (downB t) = RL at *
  generalize blkCE a 3 = E at *
  have HC : HidC _ _ _ _ _ := ⟨hc⟩
  obtain ⟨x0, x1, x2⟩ := hp.cells
  clear hc h hp hw hv ha e
  go_enter Tryz.func86, Tryz.ntmps86
  go_wp2_with fail
  refine HC.out.mono ?_
  clear HC
  rintro e w1 (⟨h1, ao, cp, rfl, hi, t1⟩ | ⟨h1, rfl, t1⟩)
  · have HI : Hid _ := hi
    have HT : Hid _ := t1
    have H1 : Hid _ := h1
    clear hi t1 h1
    skip
    go_wp2
    exact bodyPost_ret (v := .tuple #[.slice ao RL.length cp, .int .i64 0]) (by simp [results, Tryz.results86, go_sem]) rfl (.inl ⟨H1.out, ao, cp, rfl, HI.out, HT.out⟩)
  · have HT : Hid _ := t1
    have H1 : Hid _ := h1
    clear t1 h1
    go_wp2
    exact bodyPost_ret (v := .tuple #[.slice none 0 0, .int .i64 E]) (by simp [results, Tryz.results86, go_sem]) rfl (.inr ⟨H1.out, rfl, HT.out⟩)

theorem blkE_4 (a : Int) (ha : 0 ≤ a ∧ a ≤ 64) (n t u v : Int) (h : CkOk n t ⟨4, u, v⟩) : upE a t = blkCE a 4 := by
  have h1 := h.ht
  try simp only at h2
  unfold blkCE
  unfold upE mayP
  rw [if_pos (by simp only [Bool.and_eq_true, decide_eq_true_eq]; omega)]
  rfl
set_option maxRecDepth 100000 in
theorem blk1_4 {W : World} (hw : Wds W) (a : Int) (ha : 0 ≤ a ∧ a ≤ 64) (n t u v : Int) (h : CkOk n t ⟨4, u, v⟩) {p q r : Nat} (hp : BoxK W p 4 u v) (hq : W.cell? ⟨q, 0, none⟩ = some (.int .i64 t)) (hr : W.cell? ⟨r, 0, none⟩ = some (.int .i64 n)) :
    Calls Tryz.prog 86 #[.int .i64 a, .pointer (some ⟨p, 0, none⟩), .pointer (some ⟨q, 0, none⟩), .pointer (some ⟨r, 0, none⟩)] W (LkP W (blkCE a 4) (blkC n t a ⟨4, u, v⟩)) := by
  have hv := h.hv
  simp only at hv
  have hc := lup_any a t W
  rw [blkE_4 a ha n t u v h] at hc
  have e : blkC n t a ⟨4, u, v⟩ = blkL a (upB t) := rfl
  rw [e]
  generalize blkL a (upB t) = RL at *
  generalize blkCE a 4 = E at *
  have HC : HidC _ _ _ _ _ := ⟨hc⟩
  obtain ⟨x0, x1, x2⟩ := hp.cells
  clear hc h hp hw hv ha e
  go_enter Tryz.func86, Tryz.ntmps86
  go_wp2_with fail
  refine HC.out.mono ?_
  clear HC
  rintro e w1 (⟨h1, ao, cp, rfl, hi, t1⟩ | ⟨h1, rfl, t1⟩)
  · have HI : Hid _ := hi
    have HT : Hid _ := t1
    have H1 : Hid _ := h1
    clear hi t1 h1
    skip
    go_wp2
    exact bodyPost_ret (v := .tuple #[.slice ao RL.length cp, .int .i64 0]) (by simp [results, Tryz.results86, go_sem]) rfl (.inl ⟨H1.out, ao, cp, rfl, HI.out, HT.out⟩)
  · have HT : Hid _ := t1
    have H1 : Hid _ := h1
    clear t1 h1
    go_wp2
    exact bodyPost_ret (v := .tuple #[.slice none 0 0, .int .i64 E]) (by simp [results, Tryz.results86, go_sem]) rfl (.inr ⟨H1.out, rfl, HT.out⟩)

theorem blkE_5 (a : Int) (ha : 0 ≤ a ∧ a ≤ 64) (n t u v : Int) (h : CkOk n t ⟨5, u, v⟩) : enterE a t n v = blkCE a 5 := by
  have h1 := h.ht
  have h3 := h.hq (by simp)
  have h6 := h.hr rfl
  try simp only at h2
  unfold blkCE
  unfold enterE enterMay
  rw [if_pos (by simp only [Bool.and_eq_true, decide_eq_true_eq]; omega)]
  rw [if_pos h6]
  rfl
set_option maxRecDepth 100000 in
theorem blk1_5 {W : World} (hw : Wds W) (a : Int) (ha : 0 ≤ a ∧ a ≤ 64) (n t u v : Int) (h : CkOk n t ⟨5, u, v⟩) {p q r : Nat} (hp : BoxK W p 5 u v) (hq : W.cell? ⟨q, 0, none⟩ = some (.int .i64 t)) (hr : W.cell? ⟨r, 0, none⟩ = some (.int .i64 n)) :
    Calls Tryz.prog 86 #[.int .i64 a, .pointer (some ⟨p, 0, none⟩), .pointer (some ⟨q, 0, none⟩), .pointer (some ⟨r, 0, none⟩)] W (LkP W (blkCE a 5) (blkC n t a ⟨5, u, v⟩)) := by
  have hv := h.hv
  simp only at hv
  have hc := flenter_any hw a t n v hv
  rw [blkE_5 a ha n t u v h] at hc
  have e : blkC n t a ⟨5, u, v⟩ = enterI a t n 0 v := rfl
  rw [e]
  generalize enterI a t n 0 v = RL at *
  generalize blkCE a 5 = E at *
  have HC : HidC _ _ _ _ _ := ⟨hc⟩
  obtain ⟨x0, x1, x2⟩ := hp.cells
  clear hc h hp hw hv ha e
  go_enter Tryz.func86, Tryz.ntmps86
  go_wp2_with fail
  refine HC.out.mono ?_
  clear HC
  rintro e w1 (⟨h1, ao, cp, rfl, hi, t1⟩ | ⟨h1, rfl, t1⟩)
  · have HI : Hid _ := hi
    have HT : Hid _ := t1
    have H1 : Hid _ := h1
    clear hi t1 h1
    skip
    go_wp2
    exact bodyPost_ret (v := .tuple #[.slice ao RL.length cp, .int .i64 0]) (by simp [results, Tryz.results86, go_sem]) rfl (.inl ⟨H1.out, ao, cp, rfl, HI.out, HT.out⟩)
  · have HT : Hid _ := t1
    have H1 : Hid _ := h1
    clear t1 h1
    go_wp2
    exact bodyPost_ret (v := .tuple #[.slice none 0 0, .int .i64 E]) (by simp [results, Tryz.results86, go_sem]) rfl (.inr ⟨H1.out, rfl, HT.out⟩)

theorem blkE_6 (a : Int) (ha : 0 ≤ a ∧ a ≤ 64) (n t u v : Int) (h : CkOk n t ⟨6, u, v⟩) : takeE a t n = blkCE a 6 := by
  have h1 := h.ht
  have h3 := h.hq (by simp)
  try simp only at h2
  unfold blkCE
  unfold takeE takeMay
  rw [if_pos (by simp only [Bool.and_eq_true, decide_eq_true_eq]; omega)]
  rfl
set_option maxRecDepth 100000 in
theorem blk1_6 {W : World} (hw : Wds W) (a : Int) (ha : 0 ≤ a ∧ a ≤ 64) (n t u v : Int) (h : CkOk n t ⟨6, u, v⟩) {p q r : Nat} (hp : BoxK W p 6 u v) (hq : W.cell? ⟨q, 0, none⟩ = some (.int .i64 t)) (hr : W.cell? ⟨r, 0, none⟩ = some (.int .i64 n)) :
    Calls Tryz.prog 86 #[.int .i64 a, .pointer (some ⟨p, 0, none⟩), .pointer (some ⟨q, 0, none⟩), .pointer (some ⟨r, 0, none⟩)] W (LkP W (blkCE a 6) (blkC n t a ⟨6, u, v⟩)) := by
  have hv := h.hv
  simp only at hv
  have hc := fltake_any hw a t n
  rw [blkE_6 a ha n t u v h] at hc
  have e : blkC n t a ⟨6, u, v⟩ = takeI a t n 0 0 := rfl
  rw [e]
  generalize takeI a t n 0 0 = RL at *
  generalize blkCE a 6 = E at *
  have HC : HidC _ _ _ _ _ := ⟨hc⟩
  obtain ⟨x0, x1, x2⟩ := hp.cells
  clear hc h hp hw hv ha e
  go_enter Tryz.func86, Tryz.ntmps86
  go_wp2_with fail
  refine HC.out.mono ?_
  clear HC
  rintro e w1 (⟨h1, ao, cp, rfl, hi, t1⟩ | ⟨h1, rfl, t1⟩)
  · have HI : Hid _ := hi
    have HT : Hid _ := t1
    have H1 : Hid _ := h1
    clear hi t1 h1
    skip
    go_wp2
    exact bodyPost_ret (v := .tuple #[.slice ao RL.length cp, .int .i64 0]) (by simp [results, Tryz.results86, go_sem]) rfl (.inl ⟨H1.out, ao, cp, rfl, HI.out, HT.out⟩)
  · have HT : Hid _ := t1
    have H1 : Hid _ := h1
    clear t1 h1
    go_wp2
    exact bodyPost_ret (v := .tuple #[.slice none 0 0, .int .i64 E]) (by simp [results, Tryz.results86, go_sem]) rfl (.inr ⟨H1.out, rfl, HT.out⟩)

theorem blkE_7 (a : Int) (ha : 0 ≤ a ∧ a ≤ 64) (n t u v : Int) (h : CkOk n t ⟨7, u, v⟩) : arriveE a t n = blkCE a 7 := by
  have h1 := h.ht
  have h3 := h.hb rfl
  try simp only at h2
  unfold blkCE
  unfold arriveE arriveMay
  rw [if_pos (by simp only [Bool.and_eq_true, decide_eq_true_eq]; omega)]
  rfl
set_option maxRecDepth 100000 in
theorem blk1_7 {W : World} (hw : Wds W) (a : Int) (ha : 0 ≤ a ∧ a ≤ 64) (n t u v : Int) (h : CkOk n t ⟨7, u, v⟩) {p q r : Nat} (hp : BoxK W p 7 u v) (hq : W.cell? ⟨q, 0, none⟩ = some (.int .i64 t)) (hr : W.cell? ⟨r, 0, none⟩ = some (.int .i64 n)) :
    Calls Tryz.prog 86 #[.int .i64 a, .pointer (some ⟨p, 0, none⟩), .pointer (some ⟨q, 0, none⟩), .pointer (some ⟨r, 0, none⟩)] W (LkP W (blkCE a 7) (blkC n t a ⟨7, u, v⟩)) := by
  have hv := h.hv
  simp only at hv
  have hc := flarrive_any hw a t n
  rw [blkE_7 a ha n t u v h] at hc
  have e : blkC n t a ⟨7, u, v⟩ = arriveI a t n 0 0 := rfl
  rw [e]
  generalize arriveI a t n 0 0 = RL at *
  generalize blkCE a 7 = E at *
  have HC : HidC _ _ _ _ _ := ⟨hc⟩
  obtain ⟨x0, x1, x2⟩ := hp.cells
  clear hc h hp hw hv ha e
  go_enter Tryz.func86, Tryz.ntmps86
  go_wp2_with fail
  refine HC.out.mono ?_
  clear HC
  rintro e w1 (⟨h1, ao, cp, rfl, hi, t1⟩ | ⟨h1, rfl, t1⟩)
  · have HI : Hid _ := hi
    have HT : Hid _ := t1
    have H1 : Hid _ := h1
    clear hi t1 h1
    skip
    go_wp2
    exact bodyPost_ret (v := .tuple #[.slice ao RL.length cp, .int .i64 0]) (by simp [results, Tryz.results86, go_sem]) rfl (.inl ⟨H1.out, ao, cp, rfl, HI.out, HT.out⟩)
  · have HT : Hid _ := t1
    have H1 : Hid _ := h1
    clear t1 h1
    go_wp2
    exact bodyPost_ret (v := .tuple #[.slice none 0 0, .int .i64 E]) (by simp [results, Tryz.results86, go_sem]) rfl (.inr ⟨H1.out, rfl, HT.out⟩)

theorem blkE_8 (a : Int) (ha : 0 ≤ a ∧ a ≤ 64) (n t u v : Int) (h : CkOk n t ⟨8, u, v⟩) : leaveE a t 0 = blkCE a 8 := by
  have h1 := h.ht
  have h3 := h.hl rfl
  try simp only at h2
  unfold blkCE
  unfold leaveE leaveMay
  rw [if_pos (by simp only [Bool.and_eq_true, decide_eq_true_eq]; omega)]
  rfl
set_option maxRecDepth 100000 in
theorem blk1_8 {W : World} (hw : Wds W) (a : Int) (ha : 0 ≤ a ∧ a ≤ 64) (n t u v : Int) (h : CkOk n t ⟨8, u, v⟩) {p q r : Nat} (hp : BoxK W p 8 u v) (hq : W.cell? ⟨q, 0, none⟩ = some (.int .i64 t)) (hr : W.cell? ⟨r, 0, none⟩ = some (.int .i64 n)) :
    Calls Tryz.prog 86 #[.int .i64 a, .pointer (some ⟨p, 0, none⟩), .pointer (some ⟨q, 0, none⟩), .pointer (some ⟨r, 0, none⟩)] W (LkP W (blkCE a 8) (blkC n t a ⟨8, u, v⟩)) := by
  have hv := h.hv
  simp only at hv
  have hc := flleave_any hw a t 0
  rw [blkE_8 a ha n t u v h] at hc
  have e : blkC n t a ⟨8, u, v⟩ = leaveI a t 0 0 0 := rfl
  rw [e]
  generalize leaveI a t 0 0 0 = RL at *
  generalize blkCE a 8 = E at *
  have HC : HidC _ _ _ _ _ := ⟨hc⟩
  obtain ⟨x0, x1, x2⟩ := hp.cells
  clear hc h hp hw hv ha e
  go_enter Tryz.func86, Tryz.ntmps86
  go_wp2_with fail
  refine HC.out.mono ?_
  clear HC
  rintro e w1 (⟨h1, ao, cp, rfl, hi, t1⟩ | ⟨h1, rfl, t1⟩)
  · have HI : Hid _ := hi
    have HT : Hid _ := t1
    have H1 : Hid _ := h1
    clear hi t1 h1
    skip
    go_wp2
    exact bodyPost_ret (v := .tuple #[.slice ao RL.length cp, .int .i64 0]) (by simp [results, Tryz.results86, go_sem]) rfl (.inl ⟨H1.out, ao, cp, rfl, HI.out, HT.out⟩)
  · have HT : Hid _ := t1
    have H1 : Hid _ := h1
    clear t1 h1
    go_wp2
    exact bodyPost_ret (v := .tuple #[.slice none 0 0, .int .i64 E]) (by simp [results, Tryz.results86, go_sem]) rfl (.inr ⟨H1.out, rfl, HT.out⟩)

theorem blk1_any {W : World} (hw : Wds W) (a : Int) (ha : 0 ≤ a ∧ a ≤ 64) (n t : Int) (c : CaD) (h : CkOk n t c) {p q r : Nat} (hp : BoxK W p c.k c.u c.v) (hq : W.cell? ⟨q, 0, none⟩ = some (.int .i64 t)) (hr : W.cell? ⟨r, 0, none⟩ = some (.int .i64 n)) :
    Calls Tryz.prog 86 #[.int .i64 a, .pointer (some ⟨p, 0, none⟩), .pointer (some ⟨q, 0, none⟩), .pointer (some ⟨r, 0, none⟩)] W (LkP W (blkCE a c.k) (blkC n t a c)) := by
  obtain ⟨k, u, v⟩ := c
  simp only at hp ⊢
  have hk : k = 1 ∨ k = 2 ∨ k = 3 ∨ k = 4 ∨ k = 5 ∨ k = 6 ∨ k = 7 ∨ k = 8 := by have := h.hk; simp only at this; omega
  rcases hk with rfl | rfl | rfl | rfl | rfl | rfl | rfl | rfl
  · exact blk1_1 hw a ha n t u v h hp hq hr
  · exact blk1_2 hw a ha n t u v h hp hq hr
  · exact blk1_3 hw a ha n t u v h hp hq hr
  · exact blk1_4 hw a ha n t u v h hp hq hr
  · exact blk1_5 hw a ha n t u v h hp hq hr
  · exact blk1_6 hw a ha n t u v h hp hq hr
  · exact blk1_7 hw a ha n t u v h hp hq hr
  · exact blk1_8 hw a ha n t u v h hp hq hr

theorem blkCE_len (n t a : Int) (c : CaD) : (blkC n t a c).length ≤ 100 := by
  rw [blkC_len]; unfold lenC; repeat' split
  all_goals omega

def blkF (n t : Int) (c : CaD) : Int → Int × List InsD := fun a => (blkCE a c.k, blkC n t a c)

set_option maxRecDepth 100000 in
theorem block_piece {w : World} (hw : Wds w) (n t : Int) (c : CaD) (h : CkOk n t c) {lo : Nat} (hl : lo ≤ w.heap.size) :
    Calls Tryz.prog 53 #[c.val, .int .i64 n, .int .i64 t] w fun e w' => ∃ p, e = .returned p ∧ Touch w w' [] ∧ PcOk lo w'.heap.size w' p (blkF n t c) := by
  obtain ⟨k, u, v⟩ := c
  unfold CaD.val
  simp only
  have HW : Hid (∀ w4, w4 = ((w.alloc (.cells #[.int .u8 k, .int .i64 u, .int .u64 v] 52)).alloc (.cells #[.int .i64 n] 3)).alloc (.cells #[.int .i64 t] 3) → Touch w w4 [] ∧ PcOk lo w4.heap.size w4 (.func (.func 86) #[] #[.pointer (some ⟨w.heap.size, 0, none⟩), .pointer (some ⟨w.heap.size + 2, 0, none⟩), .pointer (some ⟨w.heap.size + 1, 0, none⟩)]) (blkF n t ⟨k, u, v⟩)) := by
    rintro w4 rfl
    have t1 : Touch w (w.alloc (.cells #[.int .u8 k, .int .i64 u, .int .u64 v] 52)) [] := (Touch.refl w []).alloc _
    have b1 := BoxK.new w k u v
    have s1 : (w.alloc (.cells #[.int .u8 k, .int .i64 u, .int .u64 v] 52)).heap.size = w.heap.size + 1 := by simp
    generalize (w.alloc (.cells #[.int .u8 k, .int .i64 u, .int .u64 v] 52)) = w1 at *
    have t2 : Touch w1 (w1.alloc (.cells #[.int .i64 n] 3)) [] := (Touch.refl w1 []).alloc _
    have c2 : (w1.alloc (.cells #[.int .i64 n] 3)).cell? ⟨w1.heap.size, 0, none⟩ = some (.int .i64 n) := by unfold World.cell?; rw [heap_alloc_new]; rfl
    have s2 : (w1.alloc (.cells #[.int .i64 n] 3)).heap.size = w1.heap.size + 1 := by simp
    generalize (w1.alloc (.cells #[.int .i64 n] 3)) = w2 at *
    have t3 : Touch w2 (w2.alloc (.cells #[.int .i64 t] 3)) [] := (Touch.refl w2 []).alloc _
    have c3 : (w2.alloc (.cells #[.int .i64 t] 3)).cell? ⟨w2.heap.size, 0, none⟩ = some (.int .i64 t) := by unfold World.cell?; rw [heap_alloc_new]; rfl
    have s3 : (w2.alloc (.cells #[.int .i64 t] 3)).heap.size = w2.heap.size + 1 := by simp
    generalize (w2.alloc (.cells #[.int .i64 t] 3)) = w3 at *
    have tt : Touch w w3 [] := (t1.trans t2 (by simp)).trans t3 (by simp)
    refine ⟨tt, 86, #[.pointer (some ⟨w.heap.size, 0, none⟩), .pointer (some ⟨w.heap.size + 2, 0, none⟩), .pointer (some ⟨w.heap.size + 1, 0, none⟩)], rfl, fun a W => enter_of Tryz.func86 (by kernel_rfl) (by kernel_rfl) W, ?_⟩
    intro W S tS hS a ha0 ha1
    refine ⟨blkCE_len n t a _, ?_⟩
    have hn : ∀ x, w.heap.size ≤ x → x < w3.heap.size → x ∉ S := fun x h1 h2 hx => by have := (hS x hx).2; omega
    refine blk1_any (hw.touch ((tt.mono (by simp)).trans tS (fun x hx => .inl hx)) (fun hx => (hS _ hx).1 rfl)) a ⟨ha0, ha1⟩ n t ⟨k, u, v⟩ h (p := w.heap.size) (q := w.heap.size + 2) (r := w.heap.size + 1) ?_ ?_ ?_
    · exact ((b1.touch t2 (by simp)).touch t3 (by simp)).touch tS (hn _ (by omega) (by omega))
    · refine (tS.cell (p := ⟨w.heap.size + 2, 0, none⟩) (by simp only; omega) (hn (w.heap.size + 2) (by omega) (by omega))).trans ?_
      rw [show w.heap.size + 2 = w2.heap.size by omega]
      exact c3
    · refine (tS.cell (p := ⟨w.heap.size + 1, 0, none⟩) (by simp only; omega) (hn (w.heap.size + 1) (by omega) (by omega))).trans ?_
      refine (t3.cell (p := ⟨w.heap.size + 1, 0, none⟩) (by simp only; omega) (by simp)).trans ?_
      rw [show w.heap.size + 1 = w1.heap.size by omega]
      exact c2
  have hmf := makeFunc_run
  clear h hw
  go_enter Tryz.func53, Tryz.ntmps53
  go_wp2
  go_ret
  obtain ⟨a1, a2⟩ := HW.out _ rfl
  exact ⟨_, rfl, a1, a2⟩

theorem one_num : numV 1 = 4607182418800017408 := by decide +kernel

set_option maxRecDepth 100000 in
set_option maxHeartbeats 2000000 in
theorem answer_any {w : World} (k : Int) (hk : 1 ≤ k ∧ k ≤ 8) {lo : Nat} (hl : lo ≤ w.heap.size) :
    Calls Tryz.prog 54 #[.int .u8 k] w fun e w' => ∃ p, e = .returned p ∧ Touch w w' [] ∧ PcOk lo w'.heap.size w' p (rowF (ansC k)) := by
  have hO := World.ownsRow_nil w w.heap.size 78 3
  by_cases h2 : k = 2 ∨ k = 6 ∨ k = 7
  · have e : ansC k = [insO 27 0] := by unfold ansC; rw [if_pos h2]
    rw [e]
    have hwf : ∀ i ∈ [insO 27 0], i.Wf := fun i hi => by rw [List.mem_singleton.1 hi]; exact insO_wf (by omega) (by omega) (by omega) (by omega)
    obtain ⟨a1, c1, w1, r1, o1, t1⟩ := flstep (w0 := w) (w := w) (xs := []) hO (Touch.refl _ _) [insO 27 0] #[.int .u8 27, .int .i64 0, .int .u64 0] 0 1 1 rfl rfl rfl (by omega) rfl
    obtain ⟨a3, c3, e3, i3⟩ := insIn_of o1 hwf
    simp only [Value.slice.injEq] at e3
    obtain ⟨rfl, e4, rfl⟩ := e3
    clear e4
    have HC : HidC _ _ _ _ _ := ⟨row_any i3 (by simp) (lo := lo) (fun x hx => by have := World.ownsRow.lt o1 x (by simpa using hx); omega) (by have := t1.size; omega)⟩
    have HT : Hid _ := t1
    simp only [List.nil_append, List.length_cons, List.length_nil, Nat.reduceAdd] at HC
    clear e hwf o1 t1 i3 hO
    rcases h2 with rfl | rfl | rfl
    all_goals
      go_enter Tryz.func54, Tryz.ntmps54
      go_wp2_with (at_builtin; refine Lib.wpList_append_run _ rfl (.tmp 15) (.tmp 17) _ _ rfl _ _ rfl rfl _ _ r1 ?_)
      refine HC.out.mono ?_
      rintro e w2 ⟨p, rfl, t, hp⟩
      have HP : Hid _ := hp
      have HT2 : Hid _ := HT.out.trans t (by simp)
      clear hp t
      go_wp2
      go_ret
      exact ⟨p, rfl, HT2.out, HP.out⟩
  · have e : ansC k = [insP 1, insO 27 0] := by unfold ansC; rw [if_neg h2]
    rw [e]
    have hwf : ∀ i ∈ [insP 1, insO 27 0], i.Wf := by
      intro i hi
      simp only [List.mem_cons, List.not_mem_nil, or_false] at hi
      rcases hi with rfl | rfl
      · exact insP_wf (by omega)
      · exact insO_wf (by omega) (by omega) (by omega) (by omega)
    obtain ⟨a0, c0, w1, r1, o1, t1⟩ := flstep (w0 := w) (w := w) (xs := []) hO (Touch.refl _ _) [insP 1] #[.int .u8 1, .int .i64 0, .int .u64 4607182418800017408] 0 1 1 rfl rfl rfl (by omega) (by rw [← one_num]; rfl)
    obtain ⟨a1, c1, w2, r2, o2, t2⟩ := flstep o1 t1 [insO 27 0] #[.int .u8 27, .int .i64 0, .int .u64 0] 1 1 2 rfl rfl rfl (by omega) rfl
    obtain ⟨a3, c3, e3, i3⟩ := insIn_of (l := [insP 1, insO 27 0]) o2 hwf
    simp only [Value.slice.injEq] at e3
    obtain ⟨rfl, e4, rfl⟩ := e3
    clear e4
    have HC : HidC _ _ _ _ _ := ⟨row_any i3 (by simp) (lo := lo) (fun x hx => by have := World.ownsRow.lt o2 x (by simpa using hx); omega) (by have := t2.size; omega)⟩
    simp only [List.length_cons, List.length_nil, Nat.reduceAdd] at HC
    have HT : Hid _ := t2
    clear e hwf o1 t1 o2 t2 i3 hO
    have hk' : k = 1 ∨ k = 3 ∨ k = 4 ∨ k = 5 ∨ k = 8 := by omega
    clear h2
    rcases hk' with rfl | rfl | rfl | rfl | rfl
    all_goals
      go_enter Tryz.func54, Tryz.ntmps54
      go_wp2_with (at_builtin; first | (refine Lib.wpList_append_run _ rfl (.tmp 11) (.tmp 13) _ _ rfl _ _ rfl rfl _ _ r1 ?_) | (refine Lib.wpList_append_run _ rfl (.tmp 15) (.tmp 17) _ _ rfl _ _ rfl rfl _ _ r2 ?_))
      refine HC.out.mono ?_
      rintro e w3 ⟨p, rfl, t, hp⟩
      have HP : Hid _ := hp
      have HT2 : Hid _ := HT.out.trans t (by simp)
      clear hp t
      go_wp2
      go_ret
      exact ⟨p, rfl, HT2.out, HP.out⟩

end Go.Proofs.YtcbkafbchpjnoaaGreatDoor
