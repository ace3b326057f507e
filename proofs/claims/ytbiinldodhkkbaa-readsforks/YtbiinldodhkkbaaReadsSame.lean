/-
  same OF THE STATEMENTS OF PACKAGE reads, AND ReadsPlays, WALKED.
-/
import Derived.Test.YtbiinldodhkkbaaReadsTvars
namespace Go.Proofs.Ytbiinldodhkkbaa
set_option linter.unusedVariables false
set_option linter.unusedSimpArgs false
open Go.RowKit Go.Maps

/-- A law's answer. -/
def TrueIn (w : World) (e : Ending) (w' : World) : Prop := e = .returned (.bool true) ∧ Touch w w' []

set_option maxRecDepth 100000 in
set_option maxHeartbeats 1600000 in
theorem esame_any (S : SortOk) {B : Nat} {w : World} {b m : Nat} {vl : Value} {rb : Nat} {vr : Value} {L : List EntD} (h : EPair B w b m vl rb vr L) :
    Calls Try.prog 9 #[.pointer (some ⟨b, 0, none⟩), .pointer (some ⟨rb, 0, none⟩)] w (TrueIn w) := by
  have HP : Hid _ := h
  clear h
  go_enter Try.func9, Try.ntmps9
  go_wp2_with fail
  go_loopw [5] (fun i wr => ∃ k : Nat, i = .int .i64 ((k : Int) - 1) ∧ k ≤ 14 ∧ Touch w wr []) (fun i _ => (14 - (intOf i + 1)).toNat)
  case atStart => exact ⟨0, rfl, by omega, Touch.refl _ _⟩
  case round =>
    obtain ⟨k, rfl, hk, hT⟩ := hrel
    have HT : Hid _ := hT
    by_cases hlt : k < 14
    · obtain ⟨t, ht⟩ : ∃ t : Int, t = (k : Int) - 1 := ⟨_, rfl⟩
      rw [← ht]
      have hlt' : t ≤ 12 := by omega
      have hge : -1 ≤ t := by omega
      have hP := HP.out.keep hT
      have h1 := get_any hP.s t (by omega)
      have h2 := fun (X : World) (tX : Touch w X []) => rget_any (HP.out.keep tX).r t
      obtain ⟨z, hz⟩ : ∃ z, z = (getT L t).getD ⟨0, 0, 0⟩ := ⟨_, rfl⟩
      rw [show entO (getT L t) = .agg #[.int .i64 z.tvar, .int .u64 z.val, .int .u64 z.ver] by rw [hz]; rfl] at h1 h2
      generalize hasT L t = hb at *
      have HTE : Hid _ := ht
      clear hz hT hP ht
      go_wp2_with fail
      refine h1.mono ?_
      rintro e w3 ⟨rfl, t3⟩
      clear h1
      have T4 := (HT.out.trans t3 (by simp)).alloc (.cells #[.int .i64 z.tvar, .int .u64 z.val, .int .u64 z.ver] 41)
      have e4 := heap_alloc_new w3 (.cells #[.int .i64 z.tvar, .int .u64 z.val, .int .u64 z.ver] 41 (0, 0))
      have h2' := h2 _ T4
      clear h2
      go_wp2_with fail
      refine h2'.mono ?_
      rintro e w5 ⟨rfl, t5⟩
      clear h2'
      have e5 := (t5.block w3.heap.size (lt_of_heap e4) (by simp)).trans e4
      have e6 : (w5.alloc (.cells #[.int .i64 z.tvar, .int .u64 z.val, .int .u64 z.ver] 41)).heap[w3.heap.size]? = some (.cells #[.int .i64 z.tvar, .int .u64 z.val, .int .u64 z.ver] 41 (0, 0)) := (((Touch.refl w5 []).alloc _).block _ (lt_of_heap e5) (by simp)).trans e5
      obtain ⟨q0, q1, q2⟩ := cells_three e6
      have HT6 : Hid _ := (T4.trans t5 (by simp)).alloc (.cells #[.int .i64 z.tvar, .int .u64 z.val, .int .u64 z.ver] 41)
      clear e4 e5 e6 T4 t3 t5
      go_wp2
      go_roundw
      case rel =>
        have hte := HTE.out
        exact ⟨k + 1, by congr 1; omega, by omega, HT6.out⟩
      case measure => simp [intOf]; omega
    · obtain rfl : k = 14 := by omega
      have h8 := HP.out.s.sl.len
      have n12 := tvarsP_le L 12
      have g1 := list_any (HP.out.keep hT).s
      clear hT
      go_wp2_with fail
      refine g1.mono ?_
      rintro e w1 ⟨v1, rfl, o1, t1⟩
      clear g1
      have T1 := HT.out.trans t1 (by simp)
      have g2 := rlist_any (HP.out.keep T1).r
      go_wp2_with fail
      refine g2.mono ?_
      rintro e w2 ⟨v2, rfl, o2, t2⟩
      clear g2
      have T2 := T1.trans t2 (by simp)
      have g3 := sameEnts _ _ v1 v2 L w2 (by omega) (ownsRow_touch o1 t2 (by simp)) o2
      clear T1 t1 t2 o1 o2
      go_wp2_with fail
      refine g3.mono ?_
      rintro e w3 ⟨rfl, t3⟩
      clear g3
      have T3 := T2.trans t3 (by simp)
      have g4 := tvars_any S (HP.out.keep T3).s
      clear T2 t3
      go_wp2_with fail
      refine g4.mono ?_
      rintro e w4 ⟨v4, rfl, o4, t4⟩
      clear g4
      have T4 := T3.trans t4 (by simp)
      have g5 := rtvars_any (HP.out.keep T4).r
      go_wp2_with fail
      refine g5.mono ?_
      rintro e w5 ⟨v5, rfl, o5, t5⟩
      clear g5
      have T5 := T4.trans t5 (by simp)
      have g6 := sameInts_eq _ _ _ v4 v5 (tvarsP L 12) w5 (by omega) (ownsRow_touch o4 t5 (by simp)) o5
      clear T3 T4 t4 t5 o4 o5
      go_wp2_with fail
      refine g6.mono ?_
      rintro e w6 ⟨rfl, t6⟩
      clear g6
      have T6 := T5.trans t6 (by simp)
      have g7 := newest_any (HP.out.keep T6).s
      clear T5 t6
      go_wp2_with fail
      refine g7.mono ?_
      rintro e w7 ⟨rfl, t7⟩
      clear g7
      have T7 := T6.trans t7 (by simp)
      have g8 := rnewest_any (HP.out.keep T7).r
      clear T6 t7
      go_wp2_with fail
      refine g8.mono ?_
      rintro e w8 ⟨rfl, rfl⟩
      clear g8
      have g9 := len_any (HP.out.keep T7).s
      go_wp2_with fail
      refine g9.mono ?_
      rintro e w8 ⟨rfl, rfl⟩
      clear g9
      have g10 := rlen_any (HP.out.keep T7).r
      go_wp2_with fail
      refine g10.mono ?_
      rintro e w8 ⟨rfl, rfl⟩
      clear g10
      go_wp2
      go_ret
      exact ⟨by simp, T7⟩

set_option maxRecDepth 100000 in
theorem eplaysS_any (S : SortOk) (ao : Option Addr) (cap : Nat) (l : List EntD) (w : World) (hr : EntRow w (.slice ao l.length cap) l) (hl : l.length ≤ maxLen) (hwf : ∀ e ∈ l, e.Wf) :
    Calls Try.prog 3 #[.slice ao l.length cap] w (TrueIn w) := by
  have hp := eplay_any ao cap l w hr hl hwf
  unfold EPlayed at hp
  generalize runE [] (l.take 30) = L at *
  clear hr hl hwf
  go_enter Try.func3, Try.ntmps3
  go_wp2_with fail
  refine hp.mono ?_
  rintro e w1 ⟨b, m, vl, rb, vr, rfl, hP, t1⟩
  clear hp
  go_wp2_with fail
  refine (elive_any _).mono ?_
  rintro e w2 ⟨rfl, t2⟩
  have g := esame_any S (hP.keep t2)
  go_wp2_with fail
  refine g.mono ?_
  rintro e w3 ⟨rfl, t3⟩
  clear g
  go_wp2
  go_ret
  exact ⟨rfl, (t1.trans t2 (by simp)).trans t3 (by simp)⟩

end Go.Proofs.Ytbiinldodhkkbaa
