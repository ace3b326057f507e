/-
  Oldest, Fork AND ManagerOldest, WALKED.
-/
import Derived.Test.YtgnfonimnlejbaaMgrFork
import Derived.Test.YtgnfonimnlejbaaMgrIdx
namespace Go.Proofs.Ytgnfonimnlejbaa
set_option linter.unusedVariables false
set_option linter.unusedSimpArgs false
open Go.RowKit

/-- The oldest of the first q threads. -/
def OldP (M : MD) (q : Nat) (o : Nat) (is : Bool) : Prop :=
  o < 4 ∧ (is = false → ∀ j, j < q → (M.t j).runs = false) ∧ (is = true → (M.t o).runs = true ∧ ∀ j, j < q → (M.t j).runs = true → (M.t o).stamp ≤ (M.t j).stamp)

theorem OldP.skip {M : MD} {q o : Nat} {is : Bool} (h : OldP M q o is) (hr : (M.t q).runs = false) : OldP M (q + 1) o is := by
  refine ⟨h.1, fun e j hj => ?_, fun e => ⟨(h.2.2 e).1, fun j hj hjr => ?_⟩⟩
  · by_cases hq : j = q
    · rw [hq]; exact hr
    · exact h.2.1 e j (by omega)
  · by_cases hq : j = q
    · rw [hq, hr] at hjr; cases hjr
    · exact (h.2.2 e).2 j (by omega) hjr

theorem OldP.first {M : MD} {q o : Nat} (hq4 : q < 4) (h : OldP M q o false) (hr : (M.t q).runs = true) : OldP M (q + 1) q true := by
  refine ⟨hq4, (fun e => by cases e), fun _ => ⟨hr, fun j hj hjr => ?_⟩⟩
  by_cases hq : j = q
  · rw [hq]; exact Int.le_refl _
  · rw [h.2.1 rfl j (by omega)] at hjr; cases hjr

theorem OldP.less {M : MD} {q o : Nat} (hq4 : q < 4) (h : OldP M q o true) (hr : (M.t q).runs = true) (hl : (M.t q).stamp < (M.t o).stamp) : OldP M (q + 1) q true := by
  refine ⟨hq4, (fun e => by cases e), fun _ => ⟨hr, fun j hj hjr => ?_⟩⟩
  by_cases hq : j = q
  · rw [hq]; exact Int.le_refl _
  · have := (h.2.2 rfl).2 j (by omega) hjr; omega

theorem OldP.more {M : MD} {q o : Nat} (h : OldP M q o true) (hr : (M.t q).runs = true) (hl : ¬ (M.t q).stamp < (M.t o).stamp) : OldP M (q + 1) o true := by
  refine ⟨h.1, (fun e => by cases e), fun _ => ⟨(h.2.2 rfl).1, fun j hj hjr => ?_⟩⟩
  by_cases hq : j = q
  · rw [hq]; omega
  · exact (h.2.2 rfl).2 j (by omega) hjr

set_option maxRecDepth 100000 in
set_option maxHeartbeats 3200000 in
theorem moldest_any (b : Nat) (M : MD) (w : World) (h : MObj w b M) : Calls Try.prog 10 #[.pointer (some ⟨b, 0, none⟩)] w fun x w' => ∃ (o : Nat) (is : Bool), x = .returned (.tuple #[.int .i64 o, .bool is]) ∧ OldP M 4 o is ∧ Touch w w' [] := by
  obtain ⟨C, hC⟩ : ∃ C : List Value, C = [.bool (M.t 0).runs, .bool (M.t 0).waits, .int .i64 (M.t 0).tries, .int .i64 (M.t 0).merit, .int .i64 (M.t 0).stamp, .bool (M.t 1).runs, .bool (M.t 1).waits, .int .i64 (M.t 1).tries, .int .i64 (M.t 1).merit, .int .i64 (M.t 1).stamp, .bool (M.t 2).runs, .bool (M.t 2).waits, .int .i64 (M.t 2).tries, .int .i64 (M.t 2).merit, .int .i64 (M.t 2).stamp, .bool (M.t 3).runs, .bool (M.t 3).waits, .int .i64 (M.t 3).tries, .int .i64 (M.t 3).merit, .int .i64 (M.t 3).stamp] := ⟨_, rfl⟩
  have hR : w.rangeAt b 1 C := by
    have := World.rangeAt_of_block h.st 1 20
    rw [hC]
    exact this
  have hi : (Try.prog.info? 57).map (·.size) = some C.length := by rw [hC]; kernel_rfl
  have TI : Hid (∀ (q : Nat), q < 4 → ∀ W : World, (Instr.index 57 (.agg C.toArray) (.int .i64 q)).run Try.prog W = .ok (.agg #[.bool (M.t q).runs, .bool (M.t q).waits, .int .i64 (M.t q).tries, .int .i64 (M.t q).merit, .int .i64 (M.t q).stamp]) W) := fun q hq W => by
    subst hC
    match q, hq with
    | 0, _ => exact tindex0 _ _ _ _ _ _ _ _ _ _ _ _ _ _ _ _ _ _ _ _ W
    | 1, _ => exact tindex1 _ _ _ _ _ _ _ _ _ _ _ _ _ _ _ _ _ _ _ _ W
    | 2, _ => exact tindex2 _ _ _ _ _ _ _ _ _ _ _ _ _ _ _ _ _ _ _ _ W
    | 3, _ => exact tindex3 _ _ _ _ _ _ _ _ _ _ _ _ _ _ _ _ _ _ _ _ W
  have HR : Hid (w.rangeAt b 1 C) := hR
  have HI : Hid ((Try.prog.info? 57).map (·.size) = some C.length) := hi
  have H : Hid (MObj w b M) := h
  clear h hR hi hC
  go_enter Try.func10, Try.ntmps10
  go_wp2_with (refine wpList_load_mid rfl 57 _ rfl b 1 rfl C _ HR.out Try.underlying57 rfl HI.out ?_)
  clear HR HI
  generalize C.toArray = CA at *
  go_loopw [4, 5, 14] (fun o f i wr => ∃ (q n : Nat) (is : Bool), o = .int .i64 n ∧ f = .bool is ∧ i = .int .i64 q ∧ q ≤ 4 ∧ OldP M q n is ∧ MObj wr b M ∧ Touch w wr []) (fun _ _ i _ => 4 - (intOf i).toNat)
  case atStart => exact ⟨0, 0, false, rfl, rfl, rfl, by omega, ⟨by decide, fun _ j hj => absurd hj (Nat.not_lt_zero j), fun e => by cases e⟩, H.out, Touch.refl _ _⟩
  case round =>
    obtain ⟨q, n, is, rfl, rfl, rfl, hq, hO, hM, t⟩ := hrel
    have HO : Hid (OldP M q n is) := hO
    have hn4 := hO.1
    have HM : Hid (MObj wr b M) := hM
    have HT : Hid (Touch w wr []) := t
    clear hO t H
    by_cases hq4 : q < 4
    · have hlt := lt_of_heap hM.st
      have hs := (hM.at n hn4).c4
      have ti := TI.out q hq4 wr
      have hq4' : (q : Int) < 4 := by omega
      have hq0 : 0 ≤ (q : Int) := by omega
      have hn0 : 0 ≤ (n : Int) := by omega
      have hn4' : (n : Int) < 4 := by omega
      have HX : Hid (∀ x : TD, x = M.t q → True) := fun _ _ => trivial
      clear hM TI
      have HXq : Hid (∀ t, M.t q = t → Hid (M.t q = t)) := fun _ e => e
      have HSn : Hid (∀ v, (M.t n).stamp = v → Hid ((M.t n).stamp = v)) := fun _ e => e
      obtain ⟨sn, hsn⟩ : ∃ v, (M.t n).stamp = v := ⟨_, rfl⟩
      have HSN : Hid ((M.t n).stamp = sn) := hsn
      rw [hsn] at hs
      obtain ⟨x, hx⟩ : ∃ x, M.t q = x := ⟨_, rfl⟩
      have HQ : Hid (M.t q = x) := hx
      rw [hx] at ti
      clear hsn hx HX HXq HSn
      obtain ⟨x0, x1, x2, x3, x4⟩ := x
      simp only at ti
      have HM2 : Hid (MObj (wr.alloc (.cells #[.bool x0, .bool x1, .int .i64 x2, .int .i64 x3, .int .i64 x4] 56)) b M) := HM.out.touch ((Touch.refl _ []).alloc _) (by simp)
      have HT2 : Hid (Touch w (wr.alloc (.cells #[.bool x0, .bool x1, .int .i64 x2, .int .i64 x3, .int .i64 x4] 56)) []) := HT.out.alloc _
      clear HM HT
      cases x0 with
      | false =>
        go_wp2_with fail
        go_quiet (fail)
        go_wp2
        go_roundw
        case rel => exact ⟨q + 1, n, is, rfl, rfl, by go_num, by omega, HO.out.skip (by rw [HQ.out]), HM2.out.touch (by first | exact (Touch.refl _ []).drew | exact (Touch.refl _ []).drewN _) (by simp), by first | exact HT2.out.drew | exact HT2.out.drewN _⟩
        case measure => simp [intOf]; omega
      | true =>
        cases is with
        | false =>
          go_wp2_with fail
          go_quiet (fail)
          go_wp2
          go_roundw
          case rel => exact ⟨q + 1, q, true, rfl, rfl, by go_num, by omega, HO.out.first hq4 (by rw [HQ.out]), HM2.out.touch (by first | exact (Touch.refl _ []).drew | exact (Touch.refl _ []).drewN _) (by simp), by first | exact HT2.out.drew | exact HT2.out.drewN _⟩
          case measure => simp [intOf]; omega
        | true =>
          by_cases hl : x4 < sn
          · have hd : decide (x4 < sn) = true := decide_eq_true hl
            go_wp2_with fail
            go_quiet (fail)
            go_wp2
            go_roundw
            case rel => exact ⟨q + 1, q, true, rfl, rfl, by go_num, by omega, HO.out.less hq4 (by rw [HQ.out]) (by rw [HQ.out, HSN.out]; exact hl), HM2.out.touch (by first | exact (Touch.refl _ []).drew | exact (Touch.refl _ []).drewN _) (by simp), by first | exact HT2.out.drew | exact HT2.out.drewN _⟩
            case measure => simp [intOf]; omega
          · have hd : decide (x4 < sn) = false := decide_eq_false hl
            go_wp2_with fail
            go_quiet (fail)
            go_wp2
            go_roundw
            case rel => exact ⟨q + 1, n, true, rfl, rfl, by go_num, by omega, HO.out.more (by rw [HQ.out]) (by rw [HQ.out, HSN.out]; simp only; omega), HM2.out.touch (by first | exact (Touch.refl _ []).drew | exact (Touch.refl _ []).drewN _) (by simp), by first | exact HT2.out.drew | exact HT2.out.drewN _⟩
            case measure => simp [intOf]; omega
    · have hq : q = 4 := by omega
      subst hq
      clear hM hq4 TI
      go_wp2
      go_ret2
      exact ⟨n, is, rfl, HO.out, HT.out⟩

end Go.Proofs.Ytgnfonimnlejbaa
