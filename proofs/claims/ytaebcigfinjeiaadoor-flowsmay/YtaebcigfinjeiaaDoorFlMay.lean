/-
  FlowsMay, WALKED.
-/
import Derived.Test.YtaebcigfinjeiaaDoorFlChk
import Derived.Test.YtaebcigfinjeiaaDoorVfRCheck
namespace Go.Proofs.YtaebcigfinjeiaaDoor
set_option linter.unusedVariables false
set_option linter.unusedSimpArgs false
open Go.RowKit
attribute [local go_sem] Oper.semAt_some

theorem fmay_check {W : World} {ao : Option Addr} {cap : Nat} {L : List InsD} {x : Int} (hl : L.length ≤ 24) (hc : (chkV (L ++ [insO 28 0]) x).2 = 0) (h : InsIn W ao (L.length + 1) cap (L ++ [insO 28 0])) :
    Calls Tryd.prog 19 #[.slice ao (L.length + 1) cap, .int .i64 x] W (fun e w' => ∃ p, e = .returned (.tuple #[.int .i64 p, .int .i64 0]) ∧ Touch W w' []) := by
  generalize L ++ [insO 28 0] = M at *
  have hlen := h.len
  have hr := h.row
  rw [← hlen] at hr
  refine (rcheck_any hlen (by omega) hr h.wf x).mono ?_
  unfold ChkPost
  rw [hc]
  rintro e w' ⟨rfl, t⟩
  exact ⟨_, rfl, t⟩
theorem fmay_app {L : List InsD} (hl : L.length ≤ 24) {W : World} {ao : Option Addr} {cap : Nat} (h : InsIn W ao L.length cap L) : ∃ a1 c1 w1 a2 c2 w2, (Builtin.append_ #[25, 25] 25 #[.slice (some ⟨W.heap.size, 0, none⟩) 0 0, .slice ao L.length cap]).run Tryd.prog (W.alloc (.cells #[] 44)) = .ok (.slice a1 L.length c1) w1 ∧ (Builtin.append_ #[25, 25] 25 #[.slice a1 L.length c1, .slice (some ⟨w1.heap.size, 0, none⟩) 1 1]).run Tryd.prog (w1.alloc (.cells #[.int .u8 28, .int .i64 0, .int .u64 0] 44)) = .ok (.slice a2 (L.length + 1) c2) w2 ∧ InsIn w2 a2 (L.length + 1) c2 (L ++ [insO 28 0]) ∧ Touch W w2 [] := by
  have tA : Touch W (W.alloc (.cells #[] 44)) [] := (Touch.refl W []).alloc _
  obtain ⟨a3, c3, W3, r3, o3, t3⟩ := ins_app (ins_empty W) (by simp) (by simp) (h.keep tA) (by omega) 25
  simp only [List.length_nil, Nat.zero_add, List.nil_append] at r3 o3
  have T3 : Touch W W3 [] := tA.trans t3 (fun x hx => .inr (by simp [Value.ownBlock] at hx; omega))
  obtain ⟨a4, c4, W4, r4, o4, t4⟩ := ins_push o3 (by omega) (by have := t3.size; simp at this; omega) (insO 28 0) 25
  have T4 : Touch W W4 [] := T3.trans t4 (fun x hx => .inr (by
    rcases o3.2 with ⟨e5, _⟩ | ⟨g5, cap5, cur5, e5, hb5, _⟩
    · rw [e5] at hx; simp [Value.ownBlock] at hx
    · rw [e5] at hx; simp [Value.ownBlock] at hx; omega))
  obtain ⟨a5, c5, e5, i5⟩ := insIn_of o4 (fun i hi => by
    rcases List.mem_append.1 hi with hi | hi
    · exact h.wf i hi
    · rw [List.mem_singleton.1 hi]; exact insO_wf (by omega) (by omega) (by omega) (by omega))
  simp only [Value.slice.injEq] at e5
  obtain ⟨rfl, e6, rfl⟩ := e5
  rw [← e6] at i5
  exact ⟨a3, c3, W3, a4, c4, W4, r3, r4, i5, T4⟩

theorem canon_wf {x : Int} (h : Wf64 x) : Wf64 ((ofB x.toNat : Nat) : Int) := by
  unfold ofB
  unfold Wf64 at *
  split
  · decide
  · omega
set_option maxRecDepth 100000 in
set_option maxHeartbeats 2000000 in
theorem flowsmay_any {w : World} (hw : Wds w) (k s v : Int) (k0 : 0 ≤ k) (k1 : k ≤ 255) (s0 : 0 ≤ s) (s1 : s ≤ 255) (hv : Wf64 v) :
    Calls Tryd.prog 5 #[.int .u8 k, .int .u8 s, .int .u64 v] w fun e w' => e = .returned (.bool true) ∧ Touch w w' [] := by
  obtain ⟨n, hn⟩ : ∃ n, n = s % 4 + 1 := ⟨_, rfl⟩
  have a0 : 1 ≤ n := by omega
  have a1 : n ≤ 4 := by omega
  obtain ⟨v', hv'⟩ : ∃ v' : Int, v' = ((ofB v.toNat : Nat) : Int) := ⟨_, rfl⟩
  have hvw : Wf64 v' := by rw [hv']; exact canon_wf hv
  have hvr : rightB v' = true := by rw [hv']; unfold rightB; rw [Int.toNat_natCast, ofB_idem]; simp
  have HCN : HidC Tryd.prog 18 #[.int .u64 v] w (fun e w' => e = .returned (.int .u64 v') ∧ w = w') := ⟨by rw [hv']; exact rcanon_any v hv w⟩
  have HC := fl_chk (k % 4) n v' a0 a1 hvr
  have HL := fone_len (k % 4) n v'
  have H1 : HidC _ _ _ _ _ := ⟨flone_any hw k n v' k0 k1 a0 a1 hvw hvr⟩
  have HLV : Hid (∀ W, Touch w W [] → HidC _ _ _ _ _) := fun W tw => ⟨fllive_any (hw.touch tw (by simp))⟩
  have hr1 : s.tmod 4 = n - 1 := by rw [hn, Int.tmod_eq_emod_of_nonneg s0]; omega
  have hw1 : IntKind.i64.wrap s = s := by rw [IntKind.wrap_i64]; omega
  have hw3 : IntKind.i64.wrap (n - 1) = n - 1 := by rw [IntKind.wrap_i64]; omega
  have hw4 : n - 1 + 1 = n := by omega
  have hw6 : IntKind.i64.wrap n = n := by rw [IntKind.wrap_i64]; omega
  have hw5 : IntKind.i64.wrap (n + 2) = n + 2 := by rw [IntKind.wrap_i64]; omega
  unfold FOneP at H1
  generalize foneV (k % 4) v' = fv at *
  generalize foneL (k % 4) n v' = L at *
  generalize k % 4 = j at *
  have HCK : Hid (∀ W ao cap, InsIn W ao (L.length + 1) cap (L ++ [insO 28 0]) → HidC Tryd.prog 19 #[.slice ao (L.length + 1) cap, .int .i64 (n + 2)] W (fun e w' => ∃ p, e = .returned (.tuple #[.int .i64 p, .int .i64 0]) ∧ Touch W w' [])) := fun W ao cap h => ⟨fmay_check HL HC h⟩
  have HAP : Hid (∀ (W : World) ao cap, InsIn W ao L.length cap L → ∃ a1 c1 w1 a2 c2 w2, (Builtin.append_ #[25, 25] 25 #[.slice (some ⟨W.heap.size, 0, none⟩) 0 0, .slice ao L.length cap]).run Tryd.prog (W.alloc (.cells #[] 44)) = .ok (.slice a1 L.length c1) w1 ∧ (Builtin.append_ #[25, 25] 25 #[.slice a1 L.length c1, .slice (some ⟨w1.heap.size, 0, none⟩) 1 1]).run Tryd.prog (w1.alloc (.cells #[.int .u8 28, .int .i64 0, .int .u64 0] 44)) = .ok (.slice a2 (L.length + 1) c2) w2 ∧ InsIn w2 a2 (L.length + 1) c2 (L ++ [insO 28 0]) ∧ Touch W w2 []) := fun W ao cap h => fmay_app HL h
  clear HC
  generalize L ++ [insO 28 0] = M at *
  generalize L.length = m at *
  clear HL hn a0 a1 hvw hvr hv' hw
  go_enter Tryd.func5, Tryd.ntmps5
  go_wp2_with fail
  refine HCN.out.mono ?_
  rintro e w' ⟨rfl, rfl⟩
  go_wp2_with fail
  refine H1.out.mono ?_
  rintro e w1 ⟨ao, cap, rfl, hin, s1⟩
  have tA : Touch w1 (w1.alloc (.cells #[.int .u8 (j + 5), .int .i64 0, .int .u64 fv] 36)) [] := (Touch.refl w1 []).alloc _
  obtain ⟨a1, c1, w2, a2, c2, w3, r1, r2, i3, t3⟩ := HAP.out _ ao cap (hin.keep tA)
  have HT3 : Hid (Touch w w3 []) := (s1.trans tA (by simp)).trans t3 (by simp)
  have HK := HCK.out _ _ _ i3
  have hh : (w1.alloc (.cells #[.int .u8 (j + 5), .int .i64 0, .int .u64 fv] 36)).heap.size = w1.heap.size + 1 := by simp
  rw [hh] at r1
  clear hin s1 tA i3 t3 HAP HCK H1 hh
  go_wp2_with (at_builtin; first | (refine Lib.wpList_append_run _ rfl (.tmp 27) (.tmp 28) _ _ rfl _ _ rfl rfl _ _ r1 ?_) | (refine Lib.wpList_append_run _ rfl (.tmp 29) (.tmp 31) _ _ rfl _ _ rfl rfl _ _ r2 ?_))
  refine HK.out.mono ?_
  rintro e w4 ⟨p, rfl, t4⟩
  have HT4 : Hid (Touch w w4 []) := HT3.out.trans t4 (by simp)
  clear t4 HK r1 r2
  go_wp2_with fail
  refine (HLV.out _ HT4.out).out.mono ?_
  rintro e w5 ⟨rfl, t5⟩
  have HT5 : Hid (Touch w w5 []) := HT4.out.trans t5 (by simp)
  clear t5
  go_wp2
  go_ret
  exact ⟨rfl, HT5.out⟩

end Go.Proofs.YtaebcigfinjeiaaDoor
