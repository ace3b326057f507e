/-
  same OF THE STATEMENTS OF PACKAGE writes BY ITS CONTRACT.
-/
import Derived.Test.YtijnepbmkkdpnaaWritesSame
namespace Go.Proofs.Ytijnepbmkkdpnaa
set_option linter.unusedVariables false
set_option linter.unusedSimpArgs false
open Go.RowKit Go.Maps Go.Shelf

/-- Both tell the same, wherever they lie. -/
structure WBoth (w : World) (b rb : Nat) (Fs : List Fr) : Prop where
  p : ∃ B ch, PLog B w b ch Fs
  r : ∃ B vr, RLog B w rb vr Fs.reverse
theorem WBoth.touch {w w' : World} {b rb : Nat} {Fs : List Fr} (h : WBoth w b rb Fs) (t : Touch w w' []) : WBoth w' b rb Fs := by
  obtain ⟨⟨B, ch, hp⟩, ⟨B', vr, hr⟩⟩ := h
  exact ⟨⟨B, ch, hp.touch t⟩, ⟨B', vr, hr.touch t⟩⟩
theorem WPair.told {B : Nat} {w : World} {b : Nat} {ch : List (Nat × Nat)} {rb : Nat} {vr : Value} {Fs : List Fr} (h : WPair B w b ch rb vr Fs) : WBoth w b rb Fs := ⟨⟨B, ch, h.p⟩, ⟨B, vr, h.r⟩⟩

set_option maxRecDepth 100000 in
set_option maxHeartbeats 1600000 in
theorem wsame_any {w : World} {b rb : Nat} {Fs : List Fr} (h : WBoth w b rb Fs) : Calls Try.prog 15 #[ptr b, ptr rb] w (TrueN w) := by
  have HS : Hid _ := h
  clear h
  go_enter Try.func15, Try.ntmps15
  go_wp2_with fail
  go_loopw [5] (fun i wr => ∃ k : Nat, i = .int .i64 ((k : Int) - 1) ∧ k ≤ 14 ∧ Touch w wr []) (fun i _ => (13 - intOf i).toNat)
  case atStart => exact ⟨0, rfl, by omega, Touch.refl _ _⟩
  case round =>
    obtain ⟨k, rfl, hk, hT⟩ := hrel
    have HT : Hid _ := hT
    have hB := HS.out.touch hT
    by_cases hlt : k < 14
    · have hlt' : (k : Int) - 1 ≤ 12 := by omega
      have hg1 : ∀ W, Touch wr W [] → Calls Try.prog 19 #[ptr b, .int .i64 ((k : Int) - 1)] W fun e w' => e = .returned (.tuple #[.int .u64 ((getF Fs ((k : Int) - 1)).getD 0), .bool (getF Fs ((k : Int) - 1)).isSome]) ∧ Touch W w' [] := fun W t => by
        obtain ⟨B, ch, hp⟩ := hB.p
        exact get_any (hp.touch t) _ (by omega)
      have hg2 : ∀ W, Touch wr W [] → Calls Try.prog 25 #[ptr rb, .int .i64 ((k : Int) - 1)] W fun e w' => e = .returned (.tuple #[.int .u64 ((getF Fs ((k : Int) - 1)).getD 0), .bool (getF Fs ((k : Int) - 1)).isSome]) ∧ Touch W w' [] := fun W t => by
        obtain ⟨B, vr, hr⟩ := hB.r
        have := rget_any (hr.touch t) ((k : Int) - 1)
        rw [List.reverse_reverse] at this
        exact this
      generalize (getF Fs ((k : Int) - 1)).getD 0 = a at *
      generalize (getF Fs ((k : Int) - 1)).isSome = o at *
      clear hT hB
      go_wp2_with fail
      refine (hg1 _ (Touch.refl _ _)).mono ?_
      rintro e w1 ⟨rfl, t1⟩
      clear hg1
      go_wp2_with fail
      refine (hg2 _ t1).mono ?_
      rintro e w2 ⟨rfl, t2⟩
      clear hg2
      cases o
      all_goals
        go_wp2
        go_roundw
        case rel => exact ⟨k + 1, by go_num, by omega, (HT.out.trans t1 (by simp)).trans t2 (by simp)⟩
        case measure => simp [intOf]; omega
    · obtain rfl : k = 14 := by omega
      obtain ⟨B, ch, hp⟩ := hB.p
      obtain ⟨B', vr, hr⟩ := hB.r
      have h5 := hr.le
      have h0 := hr.pos
      rw [List.length_reverse] at h5 h0
      have HP : Hid _ := hp
      have HR : Hid _ := hr
      have hle := allK_le (getF Fs) 12
      have a1 := all_any hp
      clear hp hr hB hT
      go_wp2_with fail
      refine a1.mono ?_
      rintro e w1 ⟨v1, B1, rfl, q1, hB1, t1⟩
      have a2 := rall_any (HR.out.touch t1)
      have Q1 : Hid _ := srow_of_owns (cells := pairC) (n := 2) (fun _ => rfl) q1
      clear a1 q1
      go_wp2_with fail
      refine a2.mono ?_
      rintro e w2 ⟨v2, B2, rfl, q2, hB2, t2⟩
      have Q2 : Hid _ := srow_of_owns (cells := pairC) (n := 2) (fun _ => rfl) q2
      have a3 := samePairs v1 v2 (allK (getF Fs) 12) w2 (by omega) (SRow.keep Q1.out t2 (by simp)) Q2.out
      clear a2 q2 Q1 Q2
      go_wp2_with fail
      refine a3.mono ?_
      rintro e w3 ⟨rfl, t3⟩
      have t13 := (t1.trans t2 (by simp)).trans t3 (by simp)
      have a4 := depth_any (HP.out.touch t13)
      clear a3 t1 t2 t3
      go_wp2_with fail
      refine a4.mono ?_
      rintro e w4 ⟨rfl, t4⟩
      have t14 := t13.trans t4 (by simp)
      have a5 := rdepth_any (HR.out.touch t14)
      rw [List.length_reverse] at a5
      clear a4 t4 t13
      go_wp2_with fail
      refine a5.mono ?_
      rintro e w5 ⟨rfl, rfl⟩
      have a6 := len_any (HP.out.touch t14)
      clear a5
      have hdd : ((Fs.length - 1 : Nat) : Int) = (Fs.length : Int) - 1 := by omega
      rw [hdd]
      go_wp2_with fail
      refine a6.mono ?_
      rintro e w6 ⟨rfl, t6⟩
      have t16 := t14.trans t6 (by simp)
      have a7 := rlen_any (HR.out.touch t16)
      rw [lenF_rev] at a7
      clear a6 t6 t14
      go_wp2_with fail
      refine a7.mono ?_
      rintro e w7 ⟨rfl, t7⟩
      go_wp2
      go_ret
      exact ⟨by simp, HT.out.trans (t16.trans t7 (by simp)) (by simp)⟩

end Go.Proofs.Ytijnepbmkkdpnaa
