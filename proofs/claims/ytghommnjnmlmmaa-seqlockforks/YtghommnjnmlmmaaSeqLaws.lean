/-
  play AND THE STATEMENTS OF PACKAGE seqlock, WALKED.
-/
import Derived.Test.YtghommnjnmlmmaaSeqPlay
import Derived.Test.YtghommnjnmlmmaaRowsOf
namespace Go.Proofs.Ytghommnjnmlmmaa
set_option linter.unusedVariables false
set_option linter.unusedSimpArgs false
open Go.RowKit

def DeedD.cells (d : DeedD) : List Value := [.int .i64 d.kind, .int .i64 d.owner, .int .u64 d.at']
abbrev DeedRow := SRow 3 DeedD.cells

theorem DeedRow.three {w : World} {ao : Option Addr} {cap : Nat} {l : List DeedD} (h : DeedRow w (.slice ao l.length cap) l) (k : Nat) (hk : k < l.length) :
    ∃ g off, ao = some ⟨g, off, none⟩ ∧ g < w.heap.size ∧ w.cell? ⟨g, off + k * 3, none⟩ = some (.int .i64 l[k].kind) ∧ w.cell? ⟨g, off + k * 3 + 1, none⟩ = some (.int .i64 l[k].owner) ∧ w.cell? ⟨g, off + k * 3 + 2, none⟩ = some (.int .u64 l[k].at') := by
  obtain ⟨g, off, e, hlt, hc⟩ := h.at k hk
  exact ⟨g, off, e, hlt, hc 0 (by omega), hc 1 (by omega), hc 2 (by omega)⟩

theorem runS_snoc {l : List DeedD} {k : Nat} (hk : k < l.length) (s : SLk) : runS s (l.take (k + 1)) = stepS (runS s (l.take k)) l[k] := by
  rw [List.take_succ_eq_append_getElem hk, runS, List.foldl_append]; rfl

/-- What play leaves. -/
def SPlayed (w : World) (l : List DeedD) (e : Ending) (w' : World) : Prop :=
  ∃ bl br, e = .returned (.tuple #[.pointer (some ⟨bl, 0, none⟩), .pointer (some ⟨br, 0, none⟩), .bool true]) ∧ w.heap.size ≤ bl ∧ w.heap.size ≤ br ∧ SPair w' bl br (runS ⟨0, 0⟩ (l.take 60)) ∧ Touch w w' []

theorem swf0 : SWf ⟨0, 0⟩ := ⟨by decide, by decide, fun _ => rfl, fun _ => ⟨by decide, by decide⟩⟩

set_option maxRecDepth 100000 in
set_option maxHeartbeats 1600000 in
theorem splay_any (ao : Option Addr) (cap : Nat) (l : List DeedD) (w : World) (hr : DeedRow w (.slice ao l.length cap) l) (hl : l.length ≤ maxLen) :
    Calls Try.prog 8 #[.slice ao l.length cap] w (SPlayed w l) := by
  unfold maxLen at hl
  obtain ⟨N, hN⟩ : ∃ N, N = l.length := ⟨_, rfl⟩
  rw [← hN] at hl
  have HN : Hid (N = l.length) := hN
  go_enter Try.func8, Try.ntmps8
  rw [← hN]
  clear hN
  go_wp2_with fail
  refine (snew_any w).mono ?_
  rintro e w1 ⟨rfl, l1, rfl⟩
  go_wp2_with fail
  refine (rlnew_any _).mono ?_
  rintro e w2 ⟨rfl, r2, e2⟩
  have tB : Touch (w.alloc (.cells #[.int .u64 0, .int .i64 0] 50)) w2 [] := by rw [e2]; exact (Touch.refl _ []).alloc _
  have t02 : Touch w w2 [] := ((Touch.refl w []).alloc _).trans tB (by simp)
  have hb0 : SPair w2 w.heap.size (w.alloc (.cells #[.int .u64 0, .int .i64 0] 50)).heap.size ⟨0, 0⟩ := ⟨l1.touch tB (by simp), r2, by simp, swf0⟩
  have hbr : w.heap.size ≤ (w.alloc (.cells #[.int .u64 0, .int .i64 0] 50)).heap.size := by simp
  obtain ⟨bl, hbl⟩ : ∃ bl, bl = w.heap.size := ⟨_, rfl⟩
  generalize (w.alloc (.cells #[.int .u64 0, .int .i64 0] 50)).heap.size = br at *
  rw [← hbl] at hb0
  simp only [← hbl]
  have hbl' : w.heap.size ≤ bl := by omega
  clear l1 r2 e2 tB hbl
  go_wp2_with fail
  go_loopw [7] (fun i wr => ∃ (k : Nat), i = .int .i64 k ∧ k ≤ N ∧ k ≤ 60 ∧ SPair wr bl br (runS ⟨0, 0⟩ (l.take k)) ∧ Touch w wr []) (fun i _ => 60 - (intOf i).toNat)
  case atStart => exact ⟨0, rfl, Nat.zero_le _, by omega, hb0, t02⟩
  case round =>
    obtain ⟨k, rfl, hk, hk60, hb, t⟩ := hrel
    by_cases hlt : k < N ∧ k < 60
    · obtain ⟨hlt, hlt6⟩ := hlt
      have hlt' : (k : Int) < N := by omega
      have hlt6' : (k : Int) < 60 := by omega
      have hkl : k < l.length := by rw [← HN.out]; exact hlt
      obtain ⟨g, off, rfl, hg, M0, M1, M2⟩ := hr.three k hkl
      have m0 := (t.cell (p := ⟨g, off + k * 3, none⟩) hg (by simp)).trans M0
      have m1 := (t.cell (p := ⟨g, off + k * 3 + 1, none⟩) hg (by simp)).trans M1
      have m2 := (t.cell (p := ⟨g, off + k * 3 + 2, none⟩) hg (by simp)).trans M2
      have hn := runS_snoc hkl ⟨0, 0⟩
      have hdo := sdo_any bl br _ l[k] wr hb
      obtain ⟨o, ho⟩ : ∃ o, o = l[k] := ⟨_, rfl⟩
      rw [← ho] at m0 m1 m2 hn hdo
      generalize runS ⟨0, 0⟩ (l.take k) = s at *
      obtain ⟨a0, a1, a2⟩ := o
      simp only [DeedD.val] at hdo m0 m1 m2
      have HNX : Hid _ := hn
      have HT : Hid _ := t
      clear ho hn hb t hr M0 M1 M2
      go_wp2_with fail
      refine hdo.mono ?_
      rintro e w3 ⟨rfl, hP3, t3⟩
      clear hdo
      have HP : Hid _ := hP3
      have HT3 : Hid (Touch w w3 []) := HT.out.trans t3 (by intro x hx; simp at hx; omega)
      clear hP3 t3 HT m0 m1 m2
      go_wp2
      go_roundw
      case rel => exact ⟨k + 1, by go_num, by omega, by omega, by rw [HNX.out]; exact HP.out, HT3.out⟩
      case measure => simp [intOf]; omega
    · have he : l.take k = l.take 60 := by
        have := HN.out
        by_cases h6 : k = 60
        · rw [h6]
        · rw [List.take_of_length_le (by omega), List.take_of_length_le (by omega)]
      have HB : Hid (SPair wr bl br (runS ⟨0, 0⟩ (l.take 60))) := by rw [← he]; exact hb
      have HT : Hid _ := t
      clear he hb hr t
      by_cases hlt1 : (k : Int) < N
      · have hlt2 : ¬ (k : Int) < 60 := by omega
        clear hlt
        go_wp2
        go_ret3
        exact ⟨bl, br, rfl, hbl', hbr, HB.out, HT.out⟩
      · clear hlt
        go_wp2
        go_ret3
        exact ⟨bl, br, rfl, hbl', hbr, HB.out, HT.out⟩

/-- A law's answer. -/
def TrueIn (w : World) (e : Ending) (w' : World) : Prop := e = .returned (.bool true) ∧ Touch w w' []

set_option maxRecDepth 100000 in
theorem splays_any (ao : Option Addr) (cap : Nat) (l : List DeedD) (at' : Int) (w : World) (hr : DeedRow w (.slice ao l.length cap) l) (hl : l.length ≤ maxLen) :
    Calls Try.prog 3 #[.slice ao l.length cap, .int .u64 at'] w (TrueIn w) := by
  have hp := splay_any ao cap l w hr hl
  clear hr hl
  go_enter Try.func3, Try.ntmps3
  go_wp2_with fail
  refine hp.mono ?_
  rintro e w1 ⟨bl, br, rfl, _, _, hP, t1⟩
  clear hp
  go_wp2_with fail
  refine (slive_any _).mono ?_
  rintro e w2 ⟨rfl, t2⟩
  go_wp2_with fail
  refine (ssame_any bl br _ at' w2 (hP.touch t2 (by simp) (by simp))).mono ?_
  rintro e w3 ⟨rfl, t3⟩
  go_wp2
  go_ret
  exact ⟨rfl, (t1.trans t2 (by simp)).trans t3 (by simp)⟩

set_option maxRecDepth 100000 in
set_option maxHeartbeats 800000 in
theorem seven_any (ao : Option Addr) (cap : Nat) (l : List DeedD) (w : World) (hr : DeedRow w (.slice ao l.length cap) l) (hl : l.length ≤ maxLen) :
    Calls Try.prog 4 #[.slice ao l.length cap] w (TrueIn w) := by
  have hp := splay_any ao cap l w hr hl
  unfold SPlayed at hp
  generalize runS ⟨0, 0⟩ (l.take 60) = s at *
  clear hr hl
  go_enter Try.func4, Try.ntmps4
  go_wp2_with fail
  refine hp.mono ?_
  rintro e w1 ⟨bl, br, rfl, hbl, _, hP, t1⟩
  clear hp
  go_wp2_with fail
  refine (slive_any _).mono ?_
  rintro e w2 ⟨rfl, t2⟩
  have hP2 := hP.touch t2 (by simp) (by simp)
  have ho := owner_any bl s hP2.wf.lo w2 hP2.l
  have hs := fun (W : World) (hW : LObj W bl s.c s.o) => snap_any bl s hP2.wf.lo W hW
  have lo := hP2.wf.lo
  have hi := hP2.wf.hi
  unfold ownS at ho
  unfold snapS at hs
  by_cases h2 : s.c % 2 = 1
  · simp only [if_pos h2] at ho hs
    go_wp2_with fail
    refine ho.mono ?_
    rintro e w3 ⟨rfl, t3⟩
    clear ho
    go_wp2_with fail
    refine (hs w3 (hP2.l.touch t3 (by simp))).mono ?_
    rintro e w4 ⟨rfl, l4, t4⟩
    clear hs
    go_wp2_with fail
    refine (count_any bl s.c s.o w4 l4).mono ?_
    rintro e w5 ⟨rfl, rfl⟩
    have HT : Hid _ := (((t1.trans t2 (by simp)).trans t3 (by simp)).trans t4 (by intro x hx; simp at hx; omega))
    clear t1 t2 t3 t4 hP hP2 l4
    go_wp2
    go_ret
    exact ⟨rfl, HT.out⟩
  · simp only [if_neg h2] at ho hs
    have h2' : s.c % 2 = 0 := by omega
    go_wp2_with fail
    refine ho.mono ?_
    rintro e w3 ⟨rfl, t3⟩
    clear ho
    go_wp2_with fail
    refine (hs w3 (hP2.l.touch t3 (by simp))).mono ?_
    rintro e w4 ⟨rfl, l4, t4⟩
    clear hs
    go_wp2_with fail
    refine (count_any bl s.c s.o w4 l4).mono ?_
    rintro e w5 ⟨rfl, rfl⟩
    have HT : Hid _ := (((t1.trans t2 (by simp)).trans t3 (by simp)).trans t4 (by intro x hx; simp at hx; omega))
    clear t1 t2 t3 t4 hP hP2
    go_wp2_with fail
    refine (count_any bl s.c s.o w4 l4).mono ?_
    rintro e w5 ⟨rfl, rfl⟩
    go_wp2_with fail
    refine (since_any bl s.c s.o s.c w4 l4).mono ?_
    rintro e w5 ⟨rfl, rfl⟩
    go_wp2
    go_ret
    exact ⟨by simp, HT.out⟩

theorem stepS_le (s : SLk) (d : DeedD) : (stepS s d).c ≤ s.c + 1 := by
  unfold stepS tryS leaveS
  repeat' split
  all_goals first | omega | (simp only; omega)

theorem runS_le (l : List DeedD) (s : SLk) : (runS s l).c ≤ s.c + l.length := by
  induction l generalizing s with
  | nil => simp [runS]
  | cons d l ih =>
    have h1 := ih (stepS s d)
    have h2 := stepS_le s d
    simp only [runS, List.foldl_cons, List.length_cons] at h1 ⊢
    omega

theorem tryS_ok {s : SLk} {o : Int} (h2 : ¬ s.c % 2 = 1) (h0 : 0 ≤ o) (h1 : o < 4) (hc : s.c < 1099511627775) : tryS s o s.c = (0, ⟨s.c + 1, o⟩) := by
  simp [tryS, h2, h0, h1, hc]

set_option maxRecDepth 100000 in
set_option maxHeartbeats 1600000 in
theorem ssince_any (ao : Option Addr) (cap : Nat) (l : List DeedD) (ow : Int) (br' : Bool) (h0 : 0 ≤ ow) (h1 : ow ≤ 255) (w : World) (hr : DeedRow w (.slice ao l.length cap) l) (hl : l.length ≤ maxLen) :
    Calls Try.prog 5 #[.slice ao l.length cap, .int .u8 ow, .bool br'] w (TrueIn w) := by
  have hp := splay_any ao cap l w hr hl
  have hc60 := runS_le (l.take 60) ⟨0, 0⟩
  simp only [List.length_take] at hc60
  unfold SPlayed at hp
  generalize runS ⟨0, 0⟩ (l.take 60) = s at *
  have hc : s.c ≤ 60 := by omega
  clear hr hl hc60
  go_enter Try.func5, Try.ntmps5
  go_wp2_with fail
  refine hp.mono ?_
  rintro e w1 ⟨bl, br, rfl, hbl, _, hP, t1⟩
  clear hp
  go_wp2_with fail
  refine (slive_any _).mono ?_
  rintro e w2 ⟨rfl, t2⟩
  have hP2 := hP.touch t2 (by simp) (by simp)
  have hs := snap_any bl s hP2.wf.lo w2 hP2.l
  have lo := hP2.wf.lo
  have HT2 : Hid _ := t1.trans t2 (by simp)
  have hS : ∀ y ∈ [bl], y ∈ ([] : List Nat) ∨ w.heap.size ≤ y := by intro y hy; simp at hy; omega
  have HS : Hid _ := hS
  clear t1 t2 hP hP2 hS
  unfold snapS at hs
  by_cases h2 : s.c % 2 = 1
  · simp only [if_pos h2] at hs
    go_wp2_with fail
    refine hs.mono ?_
    rintro e w3 ⟨rfl, l3, t3⟩
    clear hs
    go_wp2
    go_ret
    exact ⟨rfl, HT2.out.trans t3 HS.out⟩
  · simp only [if_neg h2] at hs
    obtain ⟨o, ho⟩ : ∃ o : Int, o = ow % 4 := ⟨_, rfl⟩
    obtain ⟨o1, ho1⟩ : ∃ o1 : Int, o1 = (ow + 1) % 4 := ⟨_, rfl⟩
    have b0 : 0 ≤ o := by omega
    have b1 : o < 4 := by omega
    have c0 : 0 ≤ o1 := by omega
    have c1 : o1 < 4 := by omega
    have hce : ¬ s.c % 2 = 1 := h2
    have ht1 := fun (W : World) (hW : LObj W bl s.c s.o) => try_any bl s o s.c lo W hW
    have ht2 := fun (W : World) (hW : LObj W bl (s.c + 1) o) => try_any bl ⟨s.c + 1, o⟩ o1 s.c (by simp only; omega) W hW
    have hbk := fun (W : World) (hW : LObj W bl (s.c + 1) o) => break_any bl ⟨s.c + 1, o⟩ o (by simp only; omega) (by simp only; omega) W hW
    have hun := fun (W : World) (hW : LObj W bl (s.c + 1) o) => unlock_any bl ⟨s.c + 1, o⟩ o (by simp only; omega) (by simp only; omega) W hW
    have ht3 := fun (W : World) (hW : LObj W bl (s.c + 1 + 1) 0) => try_any bl ⟨s.c + 1 + 1, 0⟩ o s.c (by simp only; omega) W hW
    simp only [tryS_ok h2 b0 b1 (by omega)] at ht1
    simp only [show tryS ⟨s.c + 1, o⟩ o1 s.c = (7, ⟨s.c + 1, o⟩) by unfold tryS; rw [if_neg (by simp [c0, c1]), if_pos (by simp only; omega)]] at ht2
    simp only [show leaveS ⟨s.c + 1, o⟩ o (s.c + 1 - 1) = (0, ⟨s.c, 0⟩) by unfold leaveS; rw [if_pos ⟨by simp only; omega, rfl⟩, show s.c + 1 - 1 = s.c by omega]] at hbk
    simp only [show leaveS ⟨s.c + 1, o⟩ o (s.c + 1 + 1) = (0, ⟨s.c + 1 + 1, 0⟩) by unfold leaveS; rw [if_pos ⟨by simp only; omega, rfl⟩]] at hun
    simp only [show tryS ⟨s.c + 1 + 1, 0⟩ o s.c = (8, ⟨s.c + 1 + 1, 0⟩) by unfold tryS; rw [if_neg (by simp [b0, b1]), if_neg (by simp only; omega), if_pos (by simp only; omega)]] at ht3
    have n1 : (s.c + 1 == s.c) = false := by simp; omega
    have n2 : (s.c + 1 + 1 == s.c) = false := by simp; omega
    subst ho1
    subst ho
    go_wp2_with fail
    refine hs.mono ?_
    rintro e w3 ⟨rfl, l3, t3⟩
    clear hs
    go_wp2_with fail
    refine (ht1 w3 l3).mono ?_
    rintro e w4 ⟨rfl, l4, t4⟩
    clear ht1
    go_wp2_with fail
    refine (since_any bl _ _ s.c w4 l4).mono ?_
    rintro e w5 ⟨rfl, rfl⟩
    go_wp2_with fail
    refine (ht2 w4 l4).mono ?_
    rintro e w5 ⟨rfl, l5, t5⟩
    have HT5 : Hid _ := ((HT2.out.trans t3 HS.out).trans t4 HS.out).trans t5 HS.out
    clear ht2 t3 t4 t5 l3 l4
    cases br'
    · go_wp2_with fail
      refine (hun w5 l5).mono ?_
      rintro e w6 ⟨rfl, l6, t6⟩
      clear hun hbk
      go_wp2_with fail
      refine (since_any bl _ _ s.c w6 l6).mono ?_
      rintro e w7 ⟨rfl, rfl⟩
      go_wp2_with fail
      refine (ht3 w6 l6).mono ?_
      rintro e w7 ⟨rfl, l7, t7⟩
      have HT7 : Hid _ := (HT5.out.trans t6 HS.out).trans t7 HS.out
      clear ht3 t6 t7 l6 l7
      go_wp2
      go_ret
      exact ⟨rfl, HT7.out⟩
    · go_wp2_with fail
      refine (hbk w5 l5).mono ?_
      rintro e w6 ⟨rfl, l6, t6⟩
      clear hun hbk ht3
      go_wp2_with fail
      refine (since_any bl _ _ s.c w6 l6).mono ?_
      rintro e w7 ⟨rfl, rfl⟩
      go_wp2
      go_ret
      exact ⟨by simp, HT5.out.trans t6 HS.out⟩

set_option maxRecDepth 100000 in
set_option maxHeartbeats 800000 in
theorem snone_any (k o a : Int) (w : World) : Calls Try.prog 7 #[.agg #[.int .i64 k, .int .i64 o, .int .u64 a]] w (TrueIn w) := by
  have tX : Touch w (w.alloc (.cells #[.int .i64 k, .int .i64 o, .int .u64 a] 46)) [] := (Touch.refl w []).alloc _
  have hx : One3 (w.alloc (.cells #[.int .i64 k, .int .i64 o, .int .u64 a] 46)) w.heap.size k o a := ⟨heap_alloc_new w _⟩
  have next : ∀ {W W' : World}, One3 W w.heap.size k o a → Touch W W' [] → Touch w W [] → One3 W' w.heap.size k o a ∧ Touch w W' [] := fun h t t0 => ⟨⟨(t.block _ (lt_of_heap h.st) (by simp)).trans h.st⟩, t0.trans t (by simp)⟩
  have HX : Hid _ := hx
  have HT : Hid _ := tX
  clear hx tX
  go_enter Try.func7, Try.ntmps7
  go_wp2_with fail
  refine (snap_nil _).mono ?_
  rintro e w1 ⟨rfl, t1⟩
  obtain ⟨x1, T1⟩ := next HX.out t1 HT.out
  clear t1 HX HT
  go_wp2_with fail
  refine (owner_nil _).mono ?_
  rintro e w2 ⟨rfl, rfl⟩
  go_wp2_with fail
  refine (slive_any _).mono ?_
  rintro e w2 ⟨rfl, t2⟩
  obtain ⟨x2, T2⟩ := next x1 t2 T1
  obtain ⟨a0, a1, a2⟩ := x2.cells
  clear t2 T1 x1
  go_wp2_with fail
  refine (try_nil o a _).mono ?_
  rintro e w3 ⟨rfl, t3⟩
  obtain ⟨x3, T3⟩ := next x2 t3 T2
  obtain ⟨b0, b1, b2⟩ := x3.cells
  clear t3 T2 x2 a0 a1 a2
  go_wp2_with fail
  refine (unlock_nil o _).mono ?_
  rintro e w4 ⟨rfl, t4⟩
  obtain ⟨x4, T4⟩ := next x3 t4 T3
  obtain ⟨a0, a1, a2⟩ := x4.cells
  clear t4 T3 x3 b0 b1 b2
  go_wp2_with fail
  refine (break_nil o _).mono ?_
  rintro e w5 ⟨rfl, t5⟩
  obtain ⟨x5, T5⟩ := next x4 t5 T4
  obtain ⟨b0, b1, b2⟩ := x5.cells
  clear t5 T4 x4 a0 a1 a2
  go_wp2_with fail
  refine (count_nil _).mono ?_
  rintro e w6 ⟨rfl, rfl⟩
  go_wp2_with fail
  refine (since_nil a _).mono ?_
  rintro e w6 ⟨rfl, rfl⟩
  go_wp2_with fail
  refine (fork_nil _).mono ?_
  rintro e w6 ⟨rfl, rfl⟩
  go_wp2
  go_ret
  exact ⟨rfl, T5⟩

set_option maxRecDepth 100000 in
set_option maxHeartbeats 1600000 in
theorem sforks_any (ao : Option Addr) (cap : Nat) (l : List DeedD) (bo : Option Addr) (cap2 : Nat) (l2 : List DeedD) (w : World) (hr : DeedRow w (.slice ao l.length cap) l) (hl : l.length ≤ maxLen) (hr2 : DeedRow w (.slice bo l2.length cap2) l2) (hl2 : l2.length ≤ maxLen) :
    Calls Try.prog 6 #[.slice ao l.length cap, .slice bo l2.length cap2] w (TrueIn w) := by
  have hp := splay_any ao cap l w hr hl
  unfold SPlayed at hp
  generalize runS ⟨0, 0⟩ (l.take 60) = s at *
  clear hr hl
  unfold maxLen at hl2
  obtain ⟨N, hN⟩ : ∃ N, N = l2.length := ⟨_, rfl⟩
  rw [← hN] at hl2
  have HN : Hid (N = l2.length) := hN
  go_enter Try.func6, Try.ntmps6
  rw [← hN]
  clear hN
  go_wp2_with fail
  refine hp.mono ?_
  rintro e w1 ⟨bl, br, rfl, hbl, hbr, hP, t1⟩
  clear hp
  go_wp2_with fail
  refine (slive_any _).mono ?_
  rintro e w2 ⟨rfl, t2⟩
  have hP2 := hP.touch t2 (by simp) (by simp)
  have t02 := t1.trans t2 (by simp)
  clear t1 t2 hP
  go_wp2_with fail
  refine (fork_any bl _ _ w2 hP2.l).mono ?_
  rintro e w3 ⟨f, hf, rfl, lf, t3⟩
  have hP3 := hP2.touch t3 (by simp) (by simp)
  have hbf := lt_of_heap hP2.l.st
  have hbg := lt_of_heap hP2.r.st
  go_wp2_with fail
  refine (rfork_any br s w3 hP3.r).mono ?_
  rintro e w4 ⟨g, hg, rfl, rg, t4⟩
  have hfl := lt_of_heap lf.st
  have hF : SPair w4 f g s := ⟨lf.touch t4 (by simp), rg, by omega, hP2.wf⟩
  have t24 : Touch w2 w4 [] := t3.trans t4 (by simp)
  have hg2 : w2.heap.size ≤ g := Nat.le_trans t3.size hg
  have HP2 : Hid _ := hP2
  have HT2 : Hid _ := t02
  have hr2' : DeedRow w2 (.slice bo l2.length cap2) l2 := hr2.keep t02 (by simp)
  clear hP2 t02 lf rg t3 t4 hP3 hr2
  go_wp2_with fail
  go_loopw [10] (fun i wr => ∃ (k : Nat), i = .int .i64 k ∧ k ≤ N ∧ k ≤ 14 ∧ SPair wr f g (runS s (l2.take k)) ∧ Touch w2 wr []) (fun i _ => 14 - (intOf i).toNat)
  case atStart => exact ⟨0, rfl, Nat.zero_le _, by omega, hF, t24⟩
  case round =>
    obtain ⟨k, rfl, hk, hk60, hb, t⟩ := hrel
    by_cases hlt : k < N ∧ k < 14
    · obtain ⟨hlt, hlt6⟩ := hlt
      have hlt' : (k : Int) < N := by omega
      have hlt6' : (k : Int) < 14 := by omega
      have hkl : k < l2.length := by rw [← HN.out]; exact hlt
      obtain ⟨g', off, rfl, hg', M0, M1, M2⟩ := hr2'.three k hkl
      have m0 := (t.cell (p := ⟨g', off + k * 3, none⟩) hg' (by simp)).trans M0
      have m1 := (t.cell (p := ⟨g', off + k * 3 + 1, none⟩) hg' (by simp)).trans M1
      have m2 := (t.cell (p := ⟨g', off + k * 3 + 2, none⟩) hg' (by simp)).trans M2
      have hn := runS_snoc hkl s
      have hdo := sdo_any f g _ l2[k] wr hb
      obtain ⟨o, ho⟩ : ∃ o, o = l2[k] := ⟨_, rfl⟩
      rw [← ho] at m0 m1 m2 hn hdo
      generalize runS s (l2.take k) = s' at *
      obtain ⟨a0, a1, a2⟩ := o
      simp only [DeedD.val] at hdo m0 m1 m2
      have HNX : Hid _ := hn
      have HT : Hid _ := t
      clear ho hn hb t hr2' M0 M1 M2 hF t24
      go_wp2_with fail
      refine hdo.mono ?_
      rintro e w5 ⟨rfl, hP5, t5⟩
      clear hdo
      have HP : Hid _ := hP5
      have HT5 : Hid (Touch w2 w5 []) := HT.out.trans t5 (by intro x hx; simp at hx; omega)
      clear hP5 t5 HT m0 m1 m2
      go_wp2
      go_roundw
      case rel => exact ⟨k + 1, by go_num, by omega, by omega, by rw [HNX.out]; exact HP.out, HT5.out⟩
      case measure => simp [intOf]; omega
    · generalize runS s (l2.take k) = s' at *
      have hP6 := HP2.out.touch t (by simp) (by simp)
      have HB : Hid _ := hb
      have HT : Hid _ := HT2.out.trans t (by simp)
      have hsame := ssame_any bl br s 0 wr hP6
      have hsame2 := fun (W : World) (hW : SPair W f g s') => ssame_any f g s' 2 W hW
      clear hb hr2' t hF t24 hP6
      by_cases hlt1 : (k : Int) < N
      · have hlt2 : ¬ (k : Int) < 14 := by omega
        clear hlt
        go_wp2_with fail
        refine hsame.mono ?_
        rintro e w5 ⟨rfl, t5⟩
        go_wp2_with fail
        refine (hsame2 _ (HB.out.touch t5 (by simp) (by simp))).mono ?_
        rintro e w6 ⟨rfl, t6⟩
        go_wp2
        go_ret
        exact ⟨rfl, (HT.out.trans t5 (by simp)).trans t6 (by simp)⟩
      · clear hlt
        go_wp2_with fail
        refine hsame.mono ?_
        rintro e w5 ⟨rfl, t5⟩
        go_wp2_with fail
        refine (hsame2 _ (HB.out.touch t5 (by simp) (by simp))).mono ?_
        rintro e w6 ⟨rfl, t6⟩
        go_wp2
        go_ret
        exact ⟨rfl, (HT.out.trans t5 (by simp)).trans t6 (by simp)⟩

end Go.Proofs.Ytghommnjnmlmmaa
