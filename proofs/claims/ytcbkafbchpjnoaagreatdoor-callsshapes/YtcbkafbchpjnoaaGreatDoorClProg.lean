/-
  package calls: areOf, Tvars, Program BY THEIR CONTRACTS.
-/
import Derived.Test.YtcbkafbchpjnoaaGreatDoorClBuilt
namespace Go.Proofs.YtcbkafbchpjnoaaGreatDoor
set_option linter.unusedVariables false
set_option linter.unusedSimpArgs false
open Go.RowKit
attribute [local go_sem] Oper.semAt_some

theorem okO_kinds {k n : Int} (h : okO k n = true) : k = 1 ∨ k = 2 ∨ k = 3 ∨ k = 4 := by
  unfold okO at h
  simp only [Bool.or_eq_true, Bool.and_eq_true, decide_eq_true_eq] at h
  omega
theorem okO_is (k n : Int) : okO k n = true ↔ (k = 1 ∧ n = 0) ∨ (k = 2 ∧ 0 ≤ n ∧ n ≤ 9) ∨ (k = 3 ∧ 1 ≤ n ∧ n ≤ 4) ∨ (k = 4 ∧ 1 ≤ n ∧ n ≤ 4) := by
  unfold okO
  simp only [Bool.or_eq_true, Bool.and_eq_true, decide_eq_true_eq]

set_option maxRecDepth 100000 in
set_option maxHeartbeats 1000000 in
theorem areOf_any {w : World} {b : Nat} {k : Int} (hk : k = 1 ∨ k = 2 ∨ k = 3 ∨ k = 4) (h : ThAt w b k) (u : Int) {ao : Option Addr} {mm cap : Nat} {l : List CaD} (hl : CasIn w ao mm cap l) (hm : mm ≤ 100) :
    Calls Tryz.prog 28 #[.int .i64 u, .pointer (some ⟨b, 0, none⟩), .slice ao mm cap] w fun e w' => e = .returned (.bool (l.all (areC k u))) ∧ Touch w w' [] := by
  have HL : Hid _ := hl
  have HB : Hid (ThAt w b k) := h
  have HK : Hid _ := hk
  have HM : Hid _ := hl.len
  clear hl h hk
  go_enter Tryz.func28, Tryz.ntmps28
  go_wp2_with fail
  go_loopw [11] (fun i wr => ∃ j : Nat, i = .int .i64 j ∧ j ≤ mm ∧ l.all (areC k u) = (l.drop j).all (areC k u) ∧ Touch w wr []) (fun i _ => mm - (intOf i).toNat)
  case atStart => exact ⟨0, rfl, Nat.zero_le _, rfl, Touch.refl _ _⟩
  case round =>
    obtain ⟨j, rfl, hj, hR, hT⟩ := hrel
    by_cases hlt : j < mm
    · have h1 : (j : Int) < mm := by omega
      have h0 : (0 : Int) ≤ j := by omega
      have hjl : j < l.length := by rw [← HM.out]; exact hlt
      have hjc : j < cap := Nat.lt_of_lt_of_le hlt HL.out.le
      obtain ⟨g, off, rfl, hg, x0, x1, x2⟩ := (HL.out.keep hT).at j hjl
      have hdrop : l.drop j = l[j] :: l.drop (j + 1) := List.drop_eq_getElem_cons hjl
      rw [hdrop, List.all_cons] at hR
      have hCW := HL.out.wf l[j] (List.getElem_mem hjl)
      generalize l[j] = cc at *
      obtain ⟨c, v, x⟩ := cc
      simp only at x0 x1 x2
      have hbx := BoxK.new wr c v x
      obtain ⟨b0, b1, b2⟩ := hbx.cells
      have tW : Touch wr (wr.alloc (.cells #[.int .u8 c, .int .i64 v, .int .u64 x] 52)) [] := (Touch.refl _ _).alloc _
      have HTA : Hid (HidC Tryz.prog 49 #[.pointer (some ⟨b, 0, none⟩), .int .u8 c] (wr.alloc (.cells #[.int .u8 c, .int .i64 v, .int .u64 x] 52)) fun e w' => e = .returned (.bool (tksP k c)) ∧ (wr.alloc (.cells #[.int .u8 c, .int .i64 v, .int .u64 x] 52)) = w') := ⟨otakes_any HK.out (((show ThAt w b k from HB.out).touch hT (by simp)).touch tW (by simp)) c⟩
      have HMA : Hid (HidC Tryz.prog 50 #[.int .u8 c, .int .u64 x] (wr.alloc (.cells #[.int .u8 c, .int .i64 v, .int .u64 x] 52)) fun e w' => e = .returned (.bool (fitC ⟨c, 0, x⟩)) ∧ Touch (wr.alloc (.cells #[.int .u8 c, .int .i64 v, .int .u64 x] 52)) w' []) := ⟨may_any c x hCW.v _⟩
      have HTW : Hid (Touch w (wr.alloc (.cells #[.int .u8 c, .int .i64 v, .int .u64 x] 52)) []) := hT.trans tW (by simp)
      have hfe : areC k u ⟨c, v, x⟩ = (tksP k c && (decide (v = u) && fitC ⟨c, 0, x⟩)) := rfl
      rw [hfe] at hR
      have HR : Hid _ := hR
      clear hR hT hdrop hCW tW hbx hfe
      generalize fitC ⟨c, 0, x⟩ = fb at *
      generalize tksP k c = tb at *
      go_wp2_with fail
      refine HTA.out.out.mono ?_
      clear HTA
      rintro e w1 ⟨rfl, rfl⟩
      cases tb with
      | false =>
        have HR2 : Hid (l.all (areC k u) = false) := by show _ = _; rw [show l.all (areC k u) = _ from HR.out]; rfl
        clear HR HMA
        go_wp2
        go_ret
        exact ⟨by rw [HR2.out]; rfl, HTW.out⟩
      | true =>
        by_cases hvu : v = u
        · subst hvu
          go_wp2_with fail
          refine HMA.out.out.mono ?_
          clear HMA
          rintro e w1 ⟨rfl, t1⟩
          have HTX : Hid (Touch w w1 []) := HTW.out.trans t1 (by simp)
          clear t1 HTW
          cases fb with
          | false =>
            have HR2 : Hid (l.all (areC k v) = false) := by show _ = _; rw [show l.all (areC k v) = _ from HR.out]; simp
            clear HR
            go_wp2
            go_ret
            exact ⟨by rw [HR2.out]; rfl, HTX.out⟩
          | true =>
            have HR2 : Hid (l.all (areC k v) = (l.drop (j + 1)).all (areC k v)) := by show _ = _; rw [show l.all (areC k v) = _ from HR.out]; simp
            clear HR
            go_wp2
            go_roundw
            case rel => exact ⟨j + 1, by go_num, by omega, HR2.out, HTX.out⟩
            case measure => simp [intOf]; omega
        · have HR2 : Hid (l.all (areC k u) = false) := by show _ = _; rw [show l.all (areC k u) = _ from HR.out]; simp [hvu]
          clear HR HMA
          go_wp2
          go_ret
          exact ⟨by rw [HR2.out]; rfl, HTW.out⟩
    · have h1 : ¬ (j : Int) < mm := by omega
      have hjN : j = l.length := by rw [← HM.out]; omega
      rw [hjN, List.drop_length] at hR
      have HR2 : Hid (l.all (areC k u) = true) := hR
      have HT : Hid _ := hT
      clear hR hT
      go_wp2
      go_ret
      exact ⟨by rw [HR2.out]; rfl, HT.out⟩

set_option maxRecDepth 100000 in
theorem tvars_any (k n : Int) (w : World) : Calls Tryz.prog 17 #[.int .u8 k, .int .i64 n] w fun e w' => e = .returned (.int .i64 (tvN k n)) ∧ Touch w w' [] := by
  have HC : HidC _ _ _ _ _ := ⟨onew_any k n w⟩
  cases ho : okO k n with
  | false =>
    have HE : Hid (tvN k n = 0) := by show _ = _; unfold tvN; rw [ho]; rfl
    go_enter Tryz.func17, Tryz.ntmps17
    go_wp2_with fail
    refine HC.out.mono ?_
    clear HC
    rintro e w1 (⟨h, b, rfl, ha, hb, t⟩ | ⟨h, rfl, t⟩)
    · rw [ho] at h; cases h
    · have HT : Hid _ := t
      clear t
      go_wp2
      go_ret
      exact ⟨by rw [HE.out]; rfl, HT.out⟩
  | true =>
    have hw := (okO_is k n).1 ho
    have HE : Hid (tvN k n = if k = 3 then n + 2 else if k = 4 then 2 else 1) := by show _ = _; unfold tvN; rw [ho]; rfl
    have hn1 : IntKind.i64.wrap (0 + n) = n ∨ ¬ k = 3 := by
      by_cases h3 : k = 3
      · left; rw [IntKind.wrap_i64]; omega
      · right; exact h3
    have hk := okO_kinds ho
    rcases hk with rfl | rfl | rfl | rfl
    all_goals
      first
      | (have h3 : 1 ≤ n ∧ n ≤ 4 := by omega
         have w1 : IntKind.i64.wrap n = n := by rw [IntKind.wrap_i64]; omega
         have w2 : IntKind.i64.wrap (n + 1) = n + 1 := by rw [IntKind.wrap_i64]; omega
         have w3 : IntKind.i64.wrap (n + 1 + 1) = n + 2 := by rw [IntKind.wrap_i64]; omega)
      | skip
      clear hw hn1
      go_enter Tryz.func17, Tryz.ntmps17
      go_wp2_with fail
      refine HC.out.mono ?_
      clear HC
      rintro e w1 (⟨h, b, rfl, ha, hb, t⟩ | ⟨h, rfl, t⟩)
      · have HT : Hid _ := t
        clear t h ha
        go_wp2
        go_ret
        refine ⟨?_, HT.out⟩
        rw [HE.out]
        rfl
      · rw [ho] at h; cases h

end Go.Proofs.YtcbkafbchpjnoaaGreatDoor
