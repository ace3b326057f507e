/-
  VerifyMore, WALKED.
-/
import Derived.Test.YtonjbldnhbbdjaaVfLive2
namespace Go.Proofs.Ytonjbldnhbbdjaa
set_option linter.unusedVariables false
set_option linter.unusedSimpArgs false
open Go.RowKit
attribute [local go_sem] Oper.semAt_some

theorem rch_more {l : List InsD} {ins : List Int} {t u : Int} (htu : t ≤ u) {k : Nat} (h : rchV l ins t k = true) : rchV l ins u k = true := by
  unfold rchV at h ⊢
  split
  · rename_i hv
    rw [if_pos hv] at h
    simp only [decide_eq_true_eq] at h ⊢
    omega
  · rename_i hv
    rw [if_neg hv] at h
    exact h
theorem fbad_is_none {p : Nat → Bool} {N : Nat} (h : fbad p N = none) : ∀ j < N, p j = true := by
  intro j hj
  unfold fbad at h
  rw [List.find?_eq_none] at h
  simpa using h j (by simpa using hj)
/-- With more variables. -/
theorem chk_more (l : List InsD) {t u : Int} (htu : t ≤ u) : ((chkV l t).2 = 0 → (chkV l u).2 = 0) ∧ ((chkV l t).2 = 0 ∨ (chkV l t).2 = (chkV l u).2 ∨ (chkV l t).2 = 2) := by
  unfold chkV
  by_cases h0 : l.length = 0 ∨ 64 < l.length
  · rw [if_pos h0, if_pos h0]; simp
  · rw [if_neg h0, if_neg h0]
    cases fbad (okRight l) l.length with
    | some k => simp
    | none =>
      simp only
      cases regV l with
      | some k => simp
      | none =>
        simp only
        cases fbad (okBel l) l.length with
        | some k => simp
        | none =>
          simp only
          cases h1 : fbad (rchV l (insV l l.length) t) l.length with
          | some k => simp
          | none =>
            have h2 : fbad (rchV l (insV l l.length) u) l.length = none := fbad_none (fun j hj => rch_more htu (fbad_is_none h1 j hj))
            rw [h2]
            simp

set_option maxRecDepth 100000 in
set_option maxHeartbeats 1000000 in
theorem vmore_any (ao : Option Addr) (cap : Nat) (l : List InsD) (t m : Int) (W : World) (ht : 0 ≤ t ∧ t ≤ 255) (hm : 0 ≤ m ∧ m ≤ 255) (hr : InsV W (.slice ao l.length cap) l) (hc : l.length ≤ cap) (hcm : cap ≤ 9223372036854775807) :
    Calls Try.prog 6 #[.slice ao l.length cap, .int .u8 t, .int .u8 m] W fun e w' => e = .returned (.bool true) ∧ Touch W w' [] := by
  have hfw : HidC _ _ _ _ _ := ⟨vfew_any hr hc hcm⟩
  have hr2 : InsV W (.slice ao (l.take 65).length cap) (l.take 65) := by
    have hl : (l.take 65).length ≤ l.length := by rw [List.length_take]; omega
    have q := insv_take hr (l.take 65).length cap hl
    rwa [show l.take (l.take 65).length = l.take 65 from by rw [List.length_take, List.take_eq_take_iff]; omega] at q
  have hn : (l.take 65).length ≤ 900 := by rw [List.length_take]; omega
  have HR : Hid _ := hr2
  obtain ⟨q1, q2⟩ := chk_more (l.take 65) (t := t) (u := t + m) (by omega)
  have hc1 : HidC _ _ _ _ _ := ⟨check_any rfl hn hr2 t⟩
  have hw1 : IntKind.i64.wrap (t + m) = t + m := by rw [IntKind.wrap_i64]; omega
  have hwt : IntKind.i64.wrap t = t := by rw [IntKind.wrap_i64]; omega
  have hwm : IntKind.i64.wrap m = m := by rw [IntKind.wrap_i64]; omega
  have HLI : Hid (∀ W, HidC Try.prog 10 #[] W (fun e w' => e = .returned (.bool true) ∧ Touch W w' [])) := fun W => ⟨vlive_any W⟩
  have HCH : Hid (∀ W', Touch W W' [] → HidC Try.prog 7 #[.slice ao (l.take 65).length cap, .int .i64 (t + m)] W' (ChkPost W' (l.take 65) (t + m))) := fun W' t' => ⟨check_any rfl hn (SRow.keep HR.out t' (by simp)) (t + m)⟩
  unfold ChkPost at hc1 HCH
  generalize chkV (l.take 65) t = r1 at *
  generalize chkV (l.take 65) (t + m) = r2 at *
  obtain ⟨a1, b1⟩ := r1
  obtain ⟨a2, b2⟩ := r2
  simp only at q1 q2 hc1 HCH
  have HFIN : Hid ((b1 ≠ 0 ∨ b2 = 0) ∧ (b1 = 0 ∨ b1 = b2 ∨ b1 = 2)) := ⟨by by_cases h : b1 = 0; exact .inr (q1 h); exact .inl h, q2⟩
  clear hr hr2 HR q1 q2
  generalize (l.take 65).length = n at *
  generalize l.length = n0 at *
  go_enter Try.func6, Try.ntmps6
  go_wp2_with fail
  refine hfw.out.mono ?_
  rintro e w1 ⟨rfl, rfl⟩
  clear hfw
  go_wp2_with fail
  refine hc1.out.mono ?_
  rintro e w2 ⟨rfl, t2⟩
  have hch := HCH.out w2 t2
  have T2 : Hid _ := t2
  clear hc1 HCH t2
  go_wp2_with fail
  refine hch.out.mono ?_
  rintro e w3 ⟨rfl, t3⟩
  have T3 : Hid (Touch W w3 []) := T2.out.trans t3 (by simp)
  clear hch t3
  go_wp2_with fail
  refine (HLI.out w3).out.mono ?_
  rintro e w4 ⟨rfl, t4⟩
  have T4 : Hid (Touch W w4 []) := T3.out.trans t4 (by simp)
  clear HLI t4
  by_cases h1 : b1 = 0
  · have h2 : b2 = 0 := by rcases HFIN.out.1 with q | q; exact absurd h1 q; exact q
    subst h1 h2
    go_wp2
    go_ret
    exact ⟨by simp, T4.out⟩
  · have h1' : (b1 == 0) = false := by simpa using h1
    by_cases h2 : b1 = b2
    · subst h2
      go_wp2
      go_ret
      exact ⟨by simp, T4.out⟩
    · have h2' : (b1 == b2) = false := by simpa using h2
      have h3 : b1 = 2 := by rcases HFIN.out.2 with q | q | q; exact absurd q h1; exact absurd q h2; exact q
      subst h3
      go_wp2
      go_ret
      exact ⟨by simp, T4.out⟩

end Go.Proofs.Ytonjbldnhbbdjaa
