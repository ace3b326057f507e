/-
  LocksMay, WALKED.
-/
import Derived.Test.YtphjaekcfbalkaaLkOne
import Derived.Test.YtphjaekcfbalkaaVfRCheck
namespace Go.Proofs.Ytphjaekcfbalkaa
set_option linter.unusedVariables false
set_option linter.unusedSimpArgs false
open Go.RowKit
attribute [local go_sem] Oper.semAt_some

set_option maxRecDepth 100000 in
theorem may_fin : ∀ (j : Fin 4) (t : Fin 12) (u : Fin 4), (chkV (oneL (j.val : Int) (t.val : Int) (u.val : Int) ++ [insO 28 0]) ((t.val : Int) + 1)).2 = 0 := by decide +kernel
theorem may_chk (j t u : Int) (j0 : 0 ≤ j) (j1 : j < 4) (t0 : 0 ≤ t) (t1 : t < 12) (u0 : 0 ≤ u) (u1 : u < 4) : (chkV (oneL j t u ++ [insO 28 0]) (t + 1)).2 = 0 := by
  have := may_fin ⟨j.toNat, by omega⟩ ⟨t.toNat, by omega⟩ ⟨u.toNat, by omega⟩
  simpa [Int.toNat_of_nonneg j0, Int.toNat_of_nonneg t0, Int.toNat_of_nonneg u0] using this
theorem one_len (j t u : Int) : (oneL j t u).length ≤ 11 := by
  unfold oneL
  split
  · rw [lock_body]; simp
  · split
    · rw [unlock_body]; simp
    · split
      · rw [down_body]; simp
      · rw [up_body]; simp

theorem may_check {W : World} {ao : Option Addr} {cap : Nat} {L : List InsD} {x : Int} (hl : L.length ≤ 11) (hc : (chkV (L ++ [insO 28 0]) x).2 = 0) (h : InsIn W ao (L.length + 1) cap (L ++ [insO 28 0])) :
    Calls Try.prog 18 #[.slice ao (L.length + 1) cap, .int .i64 x] W (fun e w' => ∃ p, e = .returned (.tuple #[.int .i64 p, .int .i64 0]) ∧ Touch W w' []) := by
  generalize L ++ [insO 28 0] = M at *
  have hlen := h.len
  have hr := h.row
  rw [← hlen] at hr
  refine (rcheck_any hlen (by omega) hr h.wf x).mono ?_
  unfold ChkPost
  rw [hc]
  rintro e w' ⟨rfl, t⟩
  exact ⟨_, rfl, t⟩
theorem may_app {L : List InsD} (hl : L.length ≤ 11) {W : World} {ao : Option Addr} {cap : Nat} (h : InsIn W ao L.length cap L) : ∃ a1 c1 w1 a2 c2 w2, (Builtin.append_ #[22, 22] 22 #[.slice (some ⟨W.heap.size, 0, none⟩) 0 0, .slice ao L.length cap]).run Try.prog (W.alloc (.cells #[] 42)) = .ok (.slice a1 L.length c1) w1 ∧ (Builtin.append_ #[22, 22] 22 #[.slice a1 L.length c1, .slice (some ⟨w1.heap.size, 0, none⟩) 1 1]).run Try.prog (w1.alloc (.cells #[.int .u8 28, .int .i64 0, .int .u64 0] 42)) = .ok (.slice a2 (L.length + 1) c2) w2 ∧ InsIn w2 a2 (L.length + 1) c2 (L ++ [insO 28 0]) ∧ Touch W w2 [] := by
  have tA : Touch W (W.alloc (.cells #[] 42)) [] := (Touch.refl W []).alloc _
  obtain ⟨a3, c3, W3, r3, o3, t3⟩ := ins_app (ins_empty W) (by simp) (by simp) (h.keep tA) (by omega) 22
  simp only [List.length_nil, Nat.zero_add, List.nil_append] at r3 o3
  have T3 : Touch W W3 [] := tA.trans t3 (fun x hx => .inr (by simp [Value.ownBlock] at hx; omega))
  obtain ⟨a4, c4, W4, r4, o4, t4⟩ := ins_push o3 (by omega) (by have := t3.size; simp at this; omega) (insO 28 0) 22
  have T4 : Touch W W4 [] := T3.trans t4 (fun x hx => .inr (by
    rcases o3.2 with ⟨e5, _⟩ | ⟨g5, cap5, cur5, e5, hb5, _⟩
    · rw [e5] at hx; simp [Value.ownBlock] at hx
    · rw [e5] at hx; simp [Value.ownBlock] at hx; omega))
  obtain ⟨a5, c5, e5, i5⟩ := insIn_of o4 (fun i hi => by
    rcases List.mem_append.1 hi with hi | hi
    · exact h.wf i hi
    · rw [List.mem_singleton.1 hi]; exact insO_wf (by omega) (by omega) (by omega) (by omega))
  simp only [Value.slice.injEq] at e5
  obtain ⟨rfl, e6, rfl⟩ := e5
  rw [← e6] at i5
  exact ⟨a3, c3, W3, a4, c4, W4, r3, r4, i5, T4⟩

set_option maxRecDepth 100000 in
set_option maxHeartbeats 2000000 in
theorem locksmay_any (k t u : Int) (k0 : 0 ≤ k) (k1 : k ≤ 255) (t0 : 0 ≤ t) (t1 : t ≤ 255) (u0 : 0 ≤ u) (u1 : u ≤ 255) (w : World) :
    Calls Try.prog 5 #[.int .u8 k, .int .u8 t, .int .u8 u] w fun e w' => e = .returned (.bool true) ∧ Touch w w' [] := by
  obtain ⟨t', ht'⟩ : ∃ t', t' = t % 12 := ⟨_, rfl⟩
  obtain ⟨u', hu'⟩ : ∃ u', u' = u % 4 := ⟨_, rfl⟩
  have a0 : 0 ≤ t' := by omega
  have a1 : t' < 12 := by omega
  have b0 : 0 ≤ u' := by omega
  have b1 : u' < 4 := by omega
  have HC := may_chk (k % 4) t' u' (by omega) (by omega) a0 a1 b0 b1
  have HL := one_len (k % 4) t' u'
  have H1 : HidC _ _ _ _ _ := ⟨lone_any k t' u' k0 k1 a0 a1 b0 b1 w⟩
  have hr1 : t.tmod 12 = t' := by rw [ht', Int.tmod_eq_emod_of_nonneg t0]
  have hr2 : u.tmod 4 = u' := by rw [hu', Int.tmod_eq_emod_of_nonneg u0]
  have hw1 : IntKind.i64.wrap t = t := by rw [IntKind.wrap_i64]; omega
  have hw2 : IntKind.i64.wrap u = u := by rw [IntKind.wrap_i64]; omega
  have hw3 : IntKind.i64.wrap t' = t' := by rw [IntKind.wrap_i64]; omega
  have hw4 : IntKind.i64.wrap u' = u' := by rw [IntKind.wrap_i64]; omega
  have hw5 : IntKind.i64.wrap (t' + 1) = t' + 1 := by rw [IntKind.wrap_i64]; omega
  unfold OneP at H1
  generalize k % 4 = j at *
  generalize oneL j t' u' = L at *
  have HCK : Hid (∀ W ao cap, InsIn W ao (L.length + 1) cap (L ++ [insO 28 0]) → HidC Try.prog 18 #[.slice ao (L.length + 1) cap, .int .i64 (t' + 1)] W (fun e w' => ∃ p, e = .returned (.tuple #[.int .i64 p, .int .i64 0]) ∧ Touch W w' [])) := fun W ao cap h => ⟨may_check HL HC h⟩
  have HAP : Hid (∀ (W : World) ao cap, InsIn W ao L.length cap L → ∃ a1 c1 w1 a2 c2 w2, (Builtin.append_ #[22, 22] 22 #[.slice (some ⟨W.heap.size, 0, none⟩) 0 0, .slice ao L.length cap]).run Try.prog (W.alloc (.cells #[] 42)) = .ok (.slice a1 L.length c1) w1 ∧ (Builtin.append_ #[22, 22] 22 #[.slice a1 L.length c1, .slice (some ⟨w1.heap.size, 0, none⟩) 1 1]).run Try.prog (w1.alloc (.cells #[.int .u8 28, .int .i64 0, .int .u64 0] 42)) = .ok (.slice a2 (L.length + 1) c2) w2 ∧ InsIn w2 a2 (L.length + 1) c2 (L ++ [insO 28 0]) ∧ Touch W w2 []) := fun W ao cap h => may_app HL h
  clear HC
  generalize L ++ [insO 28 0] = M at *
  generalize L.length = n at *
  clear HL ht' hu' a0 a1 b0 b1
  go_enter Try.func5, Try.ntmps5
  go_wp2_with fail
  refine H1.out.mono ?_
  rintro e w1 ⟨ao, cap, rfl, hin, s1⟩
  have tA : Touch w1 (w1.alloc (.cells #[.int .u8 (j + 1), .int .i64 u', .int .u64 0] 35)) [] := (Touch.refl w1 []).alloc _
  obtain ⟨a1, c1, w2, a2, c2, w3, r1, r2, i3, t3⟩ := HAP.out _ ao cap (hin.keep tA)
  have HT3 : Hid (Touch w w3 []) := (s1.trans tA (by simp)).trans t3 (by simp)
  have HK := HCK.out _ _ _ i3
  have hh : (w1.alloc (.cells #[.int .u8 (j + 1), .int .i64 u', .int .u64 0] 35)).heap.size = w1.heap.size + 1 := by simp
  rw [hh] at r1
  clear hin s1 tA i3 t3 HAP HCK H1 hh
  go_wp2_with (at_builtin; first | (refine Lib.wpList_append_run _ rfl (.tmp 27) (.tmp 28) _ _ rfl _ _ rfl rfl _ _ r1 ?_) | (refine Lib.wpList_append_run _ rfl (.tmp 29) (.tmp 31) _ _ rfl _ _ rfl rfl _ _ r2 ?_))
  refine HK.out.mono ?_
  rintro e w4 ⟨p, rfl, t4⟩
  have HT4 : Hid (Touch w w4 []) := HT3.out.trans t4 (by simp)
  clear t4 HK r1 r2
  go_wp2_with fail
  refine (llive_any _).mono ?_
  rintro e w5 ⟨rfl, t5⟩
  have HT5 : Hid (Touch w w5 []) := HT4.out.trans t5 (by simp)
  clear t5
  go_wp2
  go_ret
  exact ⟨rfl, HT5.out⟩

end Go.Proofs.Ytphjaekcfbalkaa
