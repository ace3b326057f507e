/-
  THE DOCUMENT's Enter, Take, Arrive, Leave BY THEIR CONTRACTS. Written by mkfl.py.
-/
import Derived.Test.YtcbkafbchpjnoaaGreatDoorFlCalls
import Derived.Lib.AppendZeros
namespace Go.Proofs.YtcbkafbchpjnoaaGreatDoor
set_option linter.unusedVariables false
set_option linter.unusedSimpArgs false
open Go.RowKit
attribute [local go_sem] Oper.semAt_some

theorem own_low {w : World} {B B' : Nat} {v : Value} {xs : List InsD} (h : insOwn w B v xs) (hb : B' ≤ B) : insOwn w B' v xs := by
  refine ⟨h.1, ?_⟩
  rcases h.2 with h | ⟨g, cap, cur, a, b, c⟩
  · exact .inl h
  · exact .inr ⟨g, cap, cur, a, Nat.le_trans hb b, c⟩
theorem fllit {w0 w : World} (t : Touch w0 w []) (l : List InsD) (cs : Array Value) (n : Nat) (hn : l.length = n) (hcs : cs.toList = l.flatMap InsD.cells) (h100 : n ≤ 100) : insOwn (w.alloc (.cells cs 78)) w0.heap.size (.slice (some ⟨w.heap.size, 0, none⟩) n n) l := by
  subst hn
  have hsz : cs.size = l.length * 3 := by rw [← Array.length_toList, hcs, flat_len (n := 3) (fun _ => rfl)]
  exact own_low (B := w.heap.size) ⟨flat_len (n := 3) (fun _ => rfl) l, .inr ⟨w.heap.size, l.length, cs, rfl, Nat.le_refl _, heap_alloc_new w _, Nat.le_refl _, by unfold maxLen; omega, hsz, by rw [← hsz, ← hcs, ← Array.length_toList, List.take_length]⟩⟩ t.size
theorem flstep {w0 w : World} {v : Value} {xs : List InsD} (ob : insOwn w w0.heap.size v xs) (t : Touch w0 w []) (l : List InsD) (cs : Array Value) (n m k : Nat) (hn : xs.length = n) (hm : l.length = m) (hk : n + m = k) (h100 : k ≤ 100) (hcs : cs.toList = l.flatMap InsD.cells) :
    ∃ ao cap w', (Builtin.append_ #[25, 25] 25 #[v, .slice (some ⟨w.heap.size, 0, none⟩) m m]).run Tryz.prog (w.alloc (.cells cs 78)) = .ok (.slice ao k cap) w' ∧ insOwn w' w0.heap.size (.slice ao k cap) (xs ++ l) ∧ Touch w0 w' [] := by
  have ta : Touch w (w.alloc (.cells cs 78)) [] := (Touch.refl w []).alloc _
  have hlit := fllit (Touch.refl w []) l cs m hm hcs (by omega)
  obtain ⟨i0, hi, hz0, hz1, hz2⟩ := info_parts' Tryz.info_ins
  subst hn hm hk
  obtain ⟨v', w', h1, h2, h3, h4⟩ := run_app (P := Tryz.prog) (cells := InsD.cells) 25 25 78 i0 _ 3 24 Tryz.underlying25 hi hz0 hz1 hz2 rfl (by decide) (fun _ => rfl) ins_one (ownsRow_touch ob ta (by simp)) (l := l) (srow_of (cells := InsD.cells) (n := 3) (fun _ => rfl) hlit) (by omega) (by decide) (Nat.le_trans t.size ta.size)
  have h2' : insOwn w' w0.heap.size v' (xs ++ l) := by
    show w'.ownsRow _ _ _ _ _ _
    rw [List.length_append, List.flatMap_append]
    exact h2
  obtain ⟨ao', cap', rfl⟩ := owns_slice h2
  refine ⟨ao', cap', w', h1, h2', (t.trans ta (by simp)).trans ((Touch.refl _ v.ownBlock.toList).grown h3 (fun k hk => .inl (by simp [hk]))) (fun x hx => .inr ?_)⟩
  exact (World.ownsRow.lt ob x (by simpa using hx)).1

def fmayP (a t u s m : Int) : Bool := decide (0 ≤ a) && (decide (a ≤ 64) && (decide (1 ≤ s) && (decide (s ≤ m) && (decide (0 ≤ t) && decide (t ≤ 12 - u)))))
set_option maxRecDepth 100000 in
set_option maxHeartbeats 1000000 in
theorem flmay_any (a t u s m : Int) (hu : 0 ≤ u ∧ u ≤ 10) (w : World) : Calls Tryz.prog 98 #[.int .i64 a, .int .i64 t, .int .i64 u, .int .i64 s, .int .i64 m] w fun e w' => e = .returned (.int .i64 (if fmayP a t u s m then 0 else 2)) ∧ w = w' := by
  have hw : IntKind.i64.wrap (12 - u) = 12 - u := by rw [IntKind.wrap_i64]; omega
  obtain ⟨E, hE⟩ : ∃ E : Int, E = if fmayP a t u s m then 0 else 2 := ⟨_, rfl⟩
  rw [← hE]
  unfold fmayP at hE
  have HE : Hid _ := hE
  clear hE hu
  by_cases g0 : a < 0
  · have HE2 : Hid (E = 2) := by show _ = _; rw [HE.out, if_neg (by simp only [Bool.and_eq_true, decide_eq_true_eq]; omega)]
    clear HE
    go_enter Tryz.func98, Tryz.ntmps98
    go_wp2
    go_ret
    exact ⟨by rw [HE2.out]; rfl, rfl⟩
  by_cases g1 : 64 < a
  · have HE2 : Hid (E = 2) := by show _ = _; rw [HE.out, if_neg (by simp only [Bool.and_eq_true, decide_eq_true_eq]; omega)]
    clear HE
    go_enter Tryz.func98, Tryz.ntmps98
    go_wp2
    go_ret
    exact ⟨by rw [HE2.out]; rfl, rfl⟩
  by_cases g2 : s < 1
  · have HE2 : Hid (E = 2) := by show _ = _; rw [HE.out, if_neg (by simp only [Bool.and_eq_true, decide_eq_true_eq]; omega)]
    clear HE
    go_enter Tryz.func98, Tryz.ntmps98
    go_wp2
    go_ret
    exact ⟨by rw [HE2.out]; rfl, rfl⟩
  by_cases g3 : m < s
  · have HE2 : Hid (E = 2) := by show _ = _; rw [HE.out, if_neg (by simp only [Bool.and_eq_true, decide_eq_true_eq]; omega)]
    clear HE
    go_enter Tryz.func98, Tryz.ntmps98
    go_wp2
    go_ret
    exact ⟨by rw [HE2.out]; rfl, rfl⟩
  by_cases g4 : t < 0
  · have HE2 : Hid (E = 2) := by show _ = _; rw [HE.out, if_neg (by simp only [Bool.and_eq_true, decide_eq_true_eq]; omega)]
    clear HE
    go_enter Tryz.func98, Tryz.ntmps98
    go_wp2
    go_ret
    exact ⟨by rw [HE2.out]; rfl, rfl⟩
  by_cases g5 : 12 - u < t
  · have HE2 : Hid (E = 2) := by show _ = _; rw [HE.out, if_neg (by simp only [Bool.and_eq_true, decide_eq_true_eq]; omega)]
    clear HE
    go_enter Tryz.func98, Tryz.ntmps98
    go_wp2
    go_ret
    exact ⟨by rw [HE2.out]; rfl, rfl⟩
  have HE2 : Hid (E = 0) := by show _ = _; rw [HE.out, if_pos (by simp only [Bool.and_eq_true, decide_eq_true_eq]; omega)]
  clear HE
  go_enter Tryz.func98, Tryz.ntmps98
  go_wp2
  go_ret
  exact ⟨by rw [HE2.out]; rfl, rfl⟩
set_option maxRecDepth 100000 in
set_option maxHeartbeats 4000000 in
theorem rarrive_any (a t s : Int) (w : World) : Calls Tryz.prog 62 #[.int .i64 a, .int .i64 t, .int .i64 s] w (LkP w (arriveE a t s) (arriveI a t s 0 0)) := by
  obtain ⟨E, hE⟩ : ∃ E, E = arriveE a t s := ⟨_, rfl⟩
  obtain ⟨RL, hRL⟩ : ∃ RL, RL = arriveI a t s 0 0 := ⟨_, rfl⟩
  rw [← hE, ← hRL]
  unfold arriveE arriveMay at hE
  have HE : Hid _ := hE
  have HRL : Hid _ := hRL
  clear hE hRL
  have HMAY : HidC _ _ _ _ _ := ⟨flmay_any a t 2 s 4 (by omega) w⟩
  have HFM : Hid (fmayP a t 2 s 4 = true ↔ 0 ≤ a ∧ a ≤ 64 ∧ 1 ≤ s ∧ s ≤ 4 ∧ 0 ≤ t ∧ t ≤ 10) := by
    show _ ↔ _
    unfold fmayP
    simp only [Bool.and_eq_true, decide_eq_true_eq]
    omega
  cases hm : fmayP a t 2 s 4 with
  | false =>
    have HE2 : Hid (E = 2) := by show _ = _; rw [HE.out, if_neg (by have := HFM.out; rw [hm] at this; simp only [Bool.and_eq_true, decide_eq_true_eq]; simp only [Bool.false_eq_true, false_iff] at this; omega)]
    rw [hm] at HMAY
    clear HE HFM hm
    go_enter Tryz.func62, Tryz.ntmps62
    go_wp2_with fail
    refine HMAY.out.mono ?_
    rintro e w' ⟨rfl, rfl⟩
    go_wp2
    refine bodyPost_ret (v := .tuple #[.slice none 0 0, .int .i64 2]) (by simp [results, Tryz.results62, go_sem]) rfl ?_
    exact .inr ⟨by rw [HE2.out]; omega, by rw [HE2.out], Touch.refl _ _⟩
  | true =>
    have hb := HFM.out.1 hm
    rw [hm] at HMAY
    clear hm HFM
    have HBD : Hid _ := hb
    have hw1 : IntKind.i64.wrap (t + 1) = t + 1 := by rw [IntKind.wrap_i64]; omega
    have HE2 : Hid (E = if a + 19 > 64 then 4 else 0) := by show _ = _; rw [HE.out, if_pos (by simp only [Bool.and_eq_true, decide_eq_true_eq]; omega)]
    have HAT : Hid (∀ (W : World) ao cap B, insOwn W B (.slice ao 19 cap) (arriveM t s 0 0) → HidC Tryz.prog 97 #[.int .i64 a, .slice ao 19 cap] W (LkP W E RL)) := by
      intro W ao cap B ho
      have hall := arriveM_wf t s 0 0 (by omega)
      obtain ⟨ao2, cap2, e2, hin⟩ := insIn_of ho (fun i hi => (hall i hi).1)
      simp only [Value.slice.injEq] at e2
      obtain ⟨rfl, _, rfl⟩ := e2
      have := rat_any (a := a) (by omega) (by omega) hin (by show 19 ≤ 100; omega) (fun i hi => (hall i hi).2)
      rw [arriveI_map, ← HRL.out] at this
      rw [HE2.out]
      exact ⟨this⟩
    clear HE hb
    go_enter Tryz.func62, Tryz.ntmps62
    go_wp2_with fail
    refine HMAY.out.mono ?_
    rintro e w' ⟨rfl, rfl⟩
    have HT0 : Hid (Touch w w []) := Touch.refl _ _
    go_wp2_with fail
    refine (rO_any _ _ _).mono ?_
    rintro e w1 ⟨rfl, s1⟩
    have HT1 : Hid (Touch w w1 []) := HT0.out.trans s1 (by simp)
    clear s1
    go_wp2_with fail
    refine (rO_any _ _ _).mono ?_
    rintro e w2 ⟨rfl, s2⟩
    have HT2 : Hid (Touch w w2 []) := HT1.out.trans s2 (by simp)
    clear s2
    go_wp2_with fail
    refine (rO_any _ _ _).mono ?_
    rintro e w3 ⟨rfl, s3⟩
    have HT3 : Hid (Touch w w3 []) := HT2.out.trans s3 (by simp)
    clear s3
    go_wp2_with fail
    refine (rP_any _ (by have := HBD.out; omega) (by have := HBD.out; omega) _).mono ?_
    rintro e w4 ⟨rfl, s4⟩
    have HT4 : Hid (Touch w w4 []) := HT3.out.trans s4 (by simp)
    clear s4
    go_wp2_with fail
    refine (rO_any _ _ _).mono ?_
    rintro e w5 ⟨rfl, s5⟩
    have HT5 : Hid (Touch w w5 []) := HT4.out.trans s5 (by simp)
    clear s5
    go_wp2_with fail
    refine (rO_any _ _ _).mono ?_
    rintro e w6 ⟨rfl, s6⟩
    have HT6 : Hid (Touch w w6 []) := HT5.out.trans s6 (by simp)
    clear s6
    go_wp2_with fail
    refine (rP_any _ (by have := HBD.out; omega) (by have := HBD.out; omega) _).mono ?_
    rintro e w7 ⟨rfl, s7⟩
    have HT7 : Hid (Touch w w7 []) := HT6.out.trans s7 (by simp)
    clear s7
    go_wp2_with fail
    refine (rO_any _ _ _).mono ?_
    rintro e w8 ⟨rfl, s8⟩
    have HT8 : Hid (Touch w w8 []) := HT7.out.trans s8 (by simp)
    clear s8
    go_wp2_with fail
    refine (rO_any _ _ _).mono ?_
    rintro e w9 ⟨rfl, s9⟩
    have HT9 : Hid (Touch w w9 []) := HT8.out.trans s9 (by simp)
    clear s9
    have HP0 : Hid (insOwn (w9.alloc (.cells #[.int .u8 21, .int .i64 18, .int .u64 0, .int .u8 4, .int .i64 (t + 1), .int .u64 0, .int .u8 4, .int .i64 t, .int .u64 0, .int .u8 1, .int .i64 0, .int .u64 (numV 1), .int .u8 8, .int .i64 0, .int .u64 0, .int .u8 16, .int .i64 0, .int .u64 0, .int .u8 1, .int .i64 0, .int .u64 (numV s), .int .u8 14, .int .i64 0, .int .u64 0, .int .u8 20, .int .i64 17, .int .u64 0] 78)) w.heap.size (.slice (some ⟨w9.heap.size, 0, none⟩) 9 9) [insO 21 18, insO 4 (t + 1), insO 4 t, insP 1, insO 8 0, insO 16 0, insP s, insO 14 0, insO 20 17]) := fllit HT9.out [insO 21 18, insO 4 (t + 1), insO 4 t, insP 1, insO 8 0, insO 16 0, insP s, insO 14 0, insO 20 17] _ 9 rfl rfl (by omega)
    have HTP0 : Hid (Touch w (w9.alloc (.cells #[.int .u8 21, .int .i64 18, .int .u64 0, .int .u8 4, .int .i64 (t + 1), .int .u64 0, .int .u8 4, .int .i64 t, .int .u64 0, .int .u8 1, .int .i64 0, .int .u64 (numV 1), .int .u8 8, .int .i64 0, .int .u64 0, .int .u8 16, .int .i64 0, .int .u64 0, .int .u8 1, .int .i64 0, .int .u64 (numV s), .int .u8 14, .int .i64 0, .int .u64 0, .int .u8 20, .int .i64 17, .int .u64 0] 78)) []) := HT9.out.alloc _
    go_wp2_with fail
    refine (rO_any _ _ _).mono ?_
    rintro e w10 ⟨rfl, s10⟩
    have HT10 : Hid (Touch w w10 []) := HTP0.out.trans s10 (by simp)
    have HO10 : Hid _ := ownsRow_touch HP0.out s10 (by simp)
    clear HP0
    clear s10
    go_wp2_with fail
    refine (rP_any _ (by have := HBD.out; omega) (by have := HBD.out; omega) _).mono ?_
    rintro e w11 ⟨rfl, s11⟩
    have HT11 : Hid (Touch w w11 []) := HT10.out.trans s11 (by simp)
    have HO11 : Hid _ := ownsRow_touch HO10.out s11 (by simp)
    clear HO10
    clear s11
    go_wp2_with fail
    refine (rO_any _ _ _).mono ?_
    rintro e w12 ⟨rfl, s12⟩
    have HT12 : Hid (Touch w w12 []) := HT11.out.trans s12 (by simp)
    have HO12 : Hid _ := ownsRow_touch HO11.out s12 (by simp)
    clear HO11
    clear s12
    go_wp2_with fail
    refine (rO_any _ _ _).mono ?_
    rintro e w13 ⟨rfl, s13⟩
    have HT13 : Hid (Touch w w13 []) := HT12.out.trans s13 (by simp)
    have HO13 : Hid _ := ownsRow_touch HO12.out s13 (by simp)
    clear HO12
    clear s13
    go_wp2_with fail
    refine (rP_any _ (by have := HBD.out; omega) (by have := HBD.out; omega) _).mono ?_
    rintro e w14 ⟨rfl, s14⟩
    have HT14 : Hid (Touch w w14 []) := HT13.out.trans s14 (by simp)
    have HO14 : Hid _ := ownsRow_touch HO13.out s14 (by simp)
    clear HO13
    clear s14
    go_wp2_with fail
    refine (rO_any _ _ _).mono ?_
    rintro e w15 ⟨rfl, s15⟩
    have HT15 : Hid (Touch w w15 []) := HT14.out.trans s15 (by simp)
    have HO15 : Hid _ := ownsRow_touch HO14.out s15 (by simp)
    clear HO14
    clear s15
    go_wp2_with fail
    refine (rO_any _ _ _).mono ?_
    rintro e w16 ⟨rfl, s16⟩
    have HT16 : Hid (Touch w w16 []) := HT15.out.trans s16 (by simp)
    have HO16 : Hid _ := ownsRow_touch HO15.out s16 (by simp)
    clear HO15
    clear s16
    go_wp2_with fail
    refine (rO_any _ _ _).mono ?_
    rintro e w17 ⟨rfl, s17⟩
    have HT17 : Hid (Touch w w17 []) := HT16.out.trans s17 (by simp)
    have HO17 : Hid _ := ownsRow_touch HO16.out s17 (by simp)
    clear HO16
    clear s17
    go_wp2_with fail
    refine (rO_any _ _ _).mono ?_
    rintro e w18 ⟨rfl, s18⟩
    have HT18 : Hid (Touch w w18 []) := HT17.out.trans s18 (by simp)
    have HO18 : Hid _ := ownsRow_touch HO17.out s18 (by simp)
    clear HO17
    clear s18
    go_wp2_with fail
    refine (rO_any _ _ _).mono ?_
    rintro e w19 ⟨rfl, s19⟩
    have HT19 : Hid (Touch w w19 []) := HT18.out.trans s19 (by simp)
    have HO19 : Hid _ := ownsRow_touch HO18.out s19 (by simp)
    clear HO18
    clear s19
    obtain ⟨a1, c1, v1, h1, o1, t1⟩ := flstep HO19.out HT19.out [insO 17 0, insP 0, insO 5 t, insO 4 (t + 1), insP 1, insO 8 0, insO 5 (t + 1), insO 19 18, insO 5 t, insO 22 0] #[.int .u8 17, .int .i64 0, .int .u64 0, .int .u8 1, .int .i64 0, .int .u64 (numV 0), .int .u8 5, .int .i64 t, .int .u64 0, .int .u8 4, .int .i64 (t + 1), .int .u64 0, .int .u8 1, .int .i64 0, .int .u64 (numV 1), .int .u8 8, .int .i64 0, .int .u64 0, .int .u8 5, .int .i64 (t + 1), .int .u64 0, .int .u8 19, .int .i64 18, .int .u64 0, .int .u8 5, .int .i64 t, .int .u64 0, .int .u8 22, .int .i64 0, .int .u64 0] 9 10 19 rfl rfl rfl (by omega) rfl
    have HP1 : Hid _ := o1
    have HTP1 : Hid _ := t1
    clear o1 t1 HO19
    have HG : HidC _ _ _ _ _ := HAT.out _ _ _ w.heap.size HP1.out
    clear HAT
    go_wp2_with (at_builtin; refine Lib.wpList_append_run _ rfl _ _ _ _ rfl _ _ rfl rfl _ _ h1 ?_)
    refine HG.out.mono ?_
    intro e w99 h9
    have h9' : LkP w E RL e w99 := LkP.up HTP1.out h9
    clear h9 HG
    rcases h9' with ⟨he, ao, cap, rfl, hin, t9⟩ | ⟨he, rfl, t9⟩
    · have HIn : Hid _ := hin
      have HT99 : Hid _ := t9
      have HE9 : Hid _ := he
      obtain ⟨n9, hn9⟩ : ∃ n9, n9 = RL.length := ⟨_, rfl⟩
      have HN9 : Hid _ := hn9
      rw [← hn9]
      clear hin t9 he hn9
      go_wp2
      refine bodyPost_ret (v := .tuple #[.slice ao n9 cap, .int .i64 0]) (by simp [results, Tryz.results62, go_sem]) rfl ?_
      exact .inl ⟨HE9.out, ao, cap, by rw [HN9.out], HIn.out, HT99.out⟩
    · have HT99 : Hid _ := t9
      have HE9 : Hid _ := he
      clear t9 he
      go_wp2
      refine bodyPost_ret (v := .tuple #[.slice none 0 0, .int .i64 E]) (by simp [results, Tryz.results62, go_sem]) rfl ?_
      exact .inr ⟨HE9.out, rfl, HT99.out⟩
set_option maxRecDepth 100000 in
set_option maxHeartbeats 4000000 in
theorem rleave_any (a t l : Int) (w : World) : Calls Tryz.prog 63 #[.int .i64 a, .int .i64 t, .int .i64 l] w (LkP w (leaveE a t l) (leaveI a t 0 l 0)) := by
  obtain ⟨E, hE⟩ : ∃ E, E = leaveE a t l := ⟨_, rfl⟩
  obtain ⟨RL, hRL⟩ : ∃ RL, RL = leaveI a t 0 l 0 := ⟨_, rfl⟩
  rw [← hE, ← hRL]
  unfold leaveE leaveMay at hE
  have HE : Hid _ := hE
  have HRL : Hid _ := hRL
  clear hE hRL
  have HMAY : HidC _ _ _ _ _ := ⟨flmay_any a t 2 1 1 (by omega) w⟩
  have HFM : Hid (fmayP a t 2 1 1 = true ↔ 0 ≤ a ∧ a ≤ 64 ∧ 0 ≤ t ∧ t ≤ 10) := by
    show _ ↔ _
    unfold fmayP
    simp only [Bool.and_eq_true, decide_eq_true_eq]
    omega
  cases hm : fmayP a t 2 1 1 with
  | false =>
    have HE2 : Hid (E = 2) := by show _ = _; rw [HE.out, if_neg (by have := HFM.out; rw [hm] at this; simp only [Bool.and_eq_true, decide_eq_true_eq]; simp only [Bool.false_eq_true, false_iff] at this; omega)]
    rw [hm] at HMAY
    clear HE HFM hm
    go_enter Tryz.func63, Tryz.ntmps63
    go_wp2_with fail
    refine HMAY.out.mono ?_
    rintro e w' ⟨rfl, rfl⟩
    go_wp2
    refine bodyPost_ret (v := .tuple #[.slice none 0 0, .int .i64 2]) (by simp [results, Tryz.results63, go_sem]) rfl ?_
    exact .inr ⟨by rw [HE2.out]; omega, by rw [HE2.out], Touch.refl _ _⟩
  | true =>
    have hb := HFM.out.1 hm
    rw [hm] at HMAY
    clear hm HFM
    by_cases gl : l < 0
    · have HE2 : Hid (E = 2) := by show _ = _; rw [HE.out, if_neg (by simp only [Bool.and_eq_true, decide_eq_true_eq]; omega)]
      clear HE
      go_enter Tryz.func63, Tryz.ntmps63
      go_wp2_with fail
      refine HMAY.out.mono ?_
      rintro e w' ⟨rfl, rfl⟩
      go_wp2
      refine bodyPost_ret (v := .tuple #[.slice none 0 0, .int .i64 2]) (by simp [results, Tryz.results63, go_sem]) rfl ?_
      exact .inr ⟨by rw [HE2.out]; omega, by rw [HE2.out], Touch.refl _ _⟩
    by_cases g4 : 4 ≤ l
    · have HE2 : Hid (E = 2) := by show _ = _; rw [HE.out, if_neg (by simp only [Bool.and_eq_true, decide_eq_true_eq]; omega)]
      clear HE
      go_enter Tryz.func63, Tryz.ntmps63
      go_wp2_with fail
      refine HMAY.out.mono ?_
      rintro e w' ⟨rfl, rfl⟩
      go_wp2
      refine bodyPost_ret (v := .tuple #[.slice none 0 0, .int .i64 2]) (by simp [results, Tryz.results63, go_sem]) rfl ?_
      exact .inr ⟨by rw [HE2.out]; omega, by rw [HE2.out], Touch.refl _ _⟩
    have HBD : Hid _ := hb
    have hw1 : IntKind.i64.wrap (t + 1) = t + 1 := by rw [IntKind.wrap_i64]; omega
    have HE2 : Hid (E = if a + 8 > 64 then 4 else 0) := by show _ = _; rw [HE.out, if_pos (by simp only [Bool.and_eq_true, decide_eq_true_eq]; omega)]
    have HAT : Hid (∀ (W : World) ao cap B, insOwn W B (.slice ao 8 cap) (leaveM t 0 l 0) → HidC Tryz.prog 97 #[.int .i64 a, .slice ao 8 cap] W (LkP W E RL)) := by
      intro W ao cap B ho
      have hall := leaveM_wf t 0 l 0 (by omega)
      obtain ⟨ao2, cap2, e2, hin⟩ := insIn_of ho (fun i hi => (hall i hi).1)
      simp only [Value.slice.injEq] at e2
      obtain ⟨rfl, _, rfl⟩ := e2
      have := rat_any (a := a) (by omega) (by omega) hin (by show 8 ≤ 100; omega) (fun i hi => (hall i hi).2)
      rw [leaveI_map, ← HRL.out] at this
      rw [HE2.out]
      exact ⟨this⟩
    clear HE hb
    go_enter Tryz.func63, Tryz.ntmps63
    go_wp2_with fail
    refine HMAY.out.mono ?_
    rintro e w' ⟨rfl, rfl⟩
    have HT0 : Hid (Touch w w []) := Touch.refl _ _
    go_wp2_with fail
    refine (rO_any _ _ _).mono ?_
    rintro e w1 ⟨rfl, s1⟩
    have HT1 : Hid (Touch w w1 []) := HT0.out.trans s1 (by simp)
    clear s1
    go_wp2_with fail
    refine (rO_any _ _ _).mono ?_
    rintro e w2 ⟨rfl, s2⟩
    have HT2 : Hid (Touch w w2 []) := HT1.out.trans s2 (by simp)
    clear s2
    go_wp2_with fail
    refine (rO_any _ _ _).mono ?_
    rintro e w3 ⟨rfl, s3⟩
    have HT3 : Hid (Touch w w3 []) := HT2.out.trans s3 (by simp)
    clear s3
    go_wp2_with fail
    refine (rO_any _ _ _).mono ?_
    rintro e w4 ⟨rfl, s4⟩
    have HT4 : Hid (Touch w w4 []) := HT3.out.trans s4 (by simp)
    clear s4
    go_wp2_with fail
    refine (rO_any _ _ _).mono ?_
    rintro e w5 ⟨rfl, s5⟩
    have HT5 : Hid (Touch w w5 []) := HT4.out.trans s5 (by simp)
    clear s5
    go_wp2_with fail
    refine (rO_any _ _ _).mono ?_
    rintro e w6 ⟨rfl, s6⟩
    have HT6 : Hid (Touch w w6 []) := HT5.out.trans s6 (by simp)
    clear s6
    go_wp2_with fail
    refine (rO_any _ _ _).mono ?_
    rintro e w7 ⟨rfl, s7⟩
    have HT7 : Hid (Touch w w7 []) := HT6.out.trans s7 (by simp)
    clear s7
    go_wp2_with fail
    refine (rO_any _ _ _).mono ?_
    rintro e w8 ⟨rfl, s8⟩
    have HT8 : Hid (Touch w w8 []) := HT7.out.trans s8 (by simp)
    clear s8
    have HP0 : Hid (insOwn (w8.alloc (.cells #[.int .u8 21, .int .i64 7, .int .u64 0, .int .u8 2, .int .i64 l, .int .u64 0, .int .u8 4, .int .i64 (t + 1), .int .u64 0, .int .u8 13, .int .i64 0, .int .u64 0, .int .u8 20, .int .i64 6, .int .u64 0, .int .u8 19, .int .i64 7, .int .u64 0, .int .u8 26, .int .i64 0, .int .u64 0, .int .u8 22, .int .i64 0, .int .u64 0] 78)) w.heap.size (.slice (some ⟨w8.heap.size, 0, none⟩) 8 8) [insO 21 7, insO 2 l, insO 4 (t + 1), insO 13 0, insO 20 6, insO 19 7, insO 26 0, insO 22 0]) := fllit HT8.out [insO 21 7, insO 2 l, insO 4 (t + 1), insO 13 0, insO 20 6, insO 19 7, insO 26 0, insO 22 0] _ 8 rfl rfl (by omega)
    have HTP0 : Hid (Touch w (w8.alloc (.cells #[.int .u8 21, .int .i64 7, .int .u64 0, .int .u8 2, .int .i64 l, .int .u64 0, .int .u8 4, .int .i64 (t + 1), .int .u64 0, .int .u8 13, .int .i64 0, .int .u64 0, .int .u8 20, .int .i64 6, .int .u64 0, .int .u8 19, .int .i64 7, .int .u64 0, .int .u8 26, .int .i64 0, .int .u64 0, .int .u8 22, .int .i64 0, .int .u64 0] 78)) []) := HT8.out.alloc _
    have HG : HidC _ _ _ _ _ := HAT.out _ _ _ w.heap.size HP0.out
    clear HAT
    go_wp2_with fail
    refine HG.out.mono ?_
    intro e w99 h9
    have h9' : LkP w E RL e w99 := LkP.up HTP0.out h9
    clear h9 HG
    rcases h9' with ⟨he, ao, cap, rfl, hin, t9⟩ | ⟨he, rfl, t9⟩
    · have HIn : Hid _ := hin
      have HT99 : Hid _ := t9
      have HE9 : Hid _ := he
      obtain ⟨n9, hn9⟩ : ∃ n9, n9 = RL.length := ⟨_, rfl⟩
      have HN9 : Hid _ := hn9
      rw [← hn9]
      clear hin t9 he hn9
      go_wp2
      refine bodyPost_ret (v := .tuple #[.slice ao n9 cap, .int .i64 0]) (by simp [results, Tryz.results63, go_sem]) rfl ?_
      exact .inl ⟨HE9.out, ao, cap, by rw [HN9.out], HIn.out, HT99.out⟩
    · have HT99 : Hid _ := t9
      have HE9 : Hid _ := he
      clear t9 he
      go_wp2
      refine bodyPost_ret (v := .tuple #[.slice none 0 0, .int .i64 E]) (by simp [results, Tryz.results63, go_sem]) rfl ?_
      exact .inr ⟨HE9.out, rfl, HT99.out⟩
set_option maxRecDepth 100000 in
set_option maxHeartbeats 4000000 in
theorem rtake_any (a t s : Int) (w : World) : Calls Tryz.prog 61 #[.int .i64 a, .int .i64 t, .int .i64 s] w (LkP w (takeE a t s) (takeI a t s 0 0)) := by
  obtain ⟨E, hE⟩ : ∃ E, E = takeE a t s := ⟨_, rfl⟩
  obtain ⟨RL, hRL⟩ : ∃ RL, RL = takeI a t s 0 0 := ⟨_, rfl⟩
  rw [← hE, ← hRL]
  unfold takeE takeMay at hE
  have HE : Hid _ := hE
  have HRL : Hid _ := hRL
  clear hE hRL
  by_cases gs : s < 1
  · have HE2 : Hid (E = 2) := by show _ = _; rw [HE.out, if_neg (by simp only [Bool.and_eq_true, decide_eq_true_eq]; omega)]
    clear HE
    go_enter Tryz.func61, Tryz.ntmps61
    go_wp2
    refine bodyPost_ret (v := .tuple #[.slice none 0 0, .int .i64 2]) (by simp [results, Tryz.results61, go_sem]) rfl ?_
    exact .inr ⟨by rw [HE2.out]; omega, by rw [HE2.out], Touch.refl _ _⟩
  by_cases g4 : 4 < s
  · have HE2 : Hid (E = 2) := by show _ = _; rw [HE.out, if_neg (by simp only [Bool.and_eq_true, decide_eq_true_eq]; omega)]
    clear HE
    go_enter Tryz.func61, Tryz.ntmps61
    go_wp2
    refine bodyPost_ret (v := .tuple #[.slice none 0 0, .int .i64 2]) (by simp [results, Tryz.results61, go_sem]) rfl ?_
    exact .inr ⟨by rw [HE2.out]; omega, by rw [HE2.out], Touch.refl _ _⟩
  have hws : IntKind.i64.wrap (s + 2) = s + 2 := by rw [IntKind.wrap_i64]; omega
  have HMAY : HidC _ _ _ _ _ := ⟨flmay_any a t (s + 2) s 4 (by omega) w⟩
  have HFM : Hid (fmayP a t (s + 2) s 4 = true ↔ 0 ≤ a ∧ a ≤ 64 ∧ 1 ≤ s ∧ s ≤ 4 ∧ 0 ≤ t ∧ t ≤ 10 - s) := by
    show _ ↔ _
    unfold fmayP
    simp only [Bool.and_eq_true, decide_eq_true_eq]
    omega
  cases hm : fmayP a t (s + 2) s 4 with
  | false =>
    have HE2 : Hid (E = 2) := by show _ = _; rw [HE.out, if_neg (by have := HFM.out; rw [hm] at this; simp only [Bool.and_eq_true, decide_eq_true_eq]; simp only [Bool.false_eq_true, false_iff] at this; omega)]
    rw [hm] at HMAY
    clear HE HFM hm
    go_enter Tryz.func61, Tryz.ntmps61
    go_wp2_with fail
    refine HMAY.out.mono ?_
    rintro e w' ⟨rfl, rfl⟩
    go_wp2
    refine bodyPost_ret (v := .tuple #[.slice none 0 0, .int .i64 2]) (by simp [results, Tryz.results61, go_sem]) rfl ?_
    exact .inr ⟨by rw [HE2.out]; omega, by rw [HE2.out], Touch.refl _ _⟩
  | true =>
    have hb := HFM.out.1 hm
    rw [hm] at HMAY
    clear hm HFM
    have HBD : Hid _ := hb
    have hw1 : IntKind.i64.wrap (t + 1) = t + 1 := by rw [IntKind.wrap_i64]; omega
    have hw2 : IntKind.i64.wrap (t + 2) = t + 2 := by rw [IntKind.wrap_i64]; omega
    have HE2 : Hid (E = if a + 24 > 64 then 4 else 0) := by show _ = _; rw [HE.out, if_pos (by simp only [Bool.and_eq_true, decide_eq_true_eq]; omega)]
    have HAT : Hid (∀ (W : World) ao cap B, insOwn W B (.slice ao 24 cap) (takeM t s 0 0) → HidC Tryz.prog 97 #[.int .i64 a, .slice ao 24 cap] W (LkP W E RL)) := by
      intro W ao cap B ho
      have hall := takeM_wf t s 0 0 (by omega)
      obtain ⟨ao2, cap2, e2, hin⟩ := insIn_of ho (fun i hi => (hall i hi).1)
      simp only [Value.slice.injEq] at e2
      obtain ⟨rfl, _, rfl⟩ := e2
      have := rat_any (a := a) (by omega) (by omega) hin (by show 24 ≤ 100; omega) (fun i hi => (hall i hi).2)
      rw [takeI_map, ← HRL.out] at this
      rw [HE2.out]
      exact ⟨this⟩
    clear HE hb
    go_enter Tryz.func61, Tryz.ntmps61
    go_wp2_with fail
    refine HMAY.out.mono ?_
    rintro e w' ⟨rfl, rfl⟩
    have HT0 : Hid (Touch w w []) := Touch.refl _ _
    go_wp2_with fail
    refine (rO_any _ _ _).mono ?_
    rintro e w1 ⟨rfl, s1⟩
    have HT1 : Hid (Touch w w1 []) := HT0.out.trans s1 (by simp)
    clear s1
    go_wp2_with fail
    refine (rO_any _ _ _).mono ?_
    rintro e w2 ⟨rfl, s2⟩
    have HT2 : Hid (Touch w w2 []) := HT1.out.trans s2 (by simp)
    clear s2
    go_wp2_with fail
    refine (rO_any _ _ _).mono ?_
    rintro e w3 ⟨rfl, s3⟩
    have HT3 : Hid (Touch w w3 []) := HT2.out.trans s3 (by simp)
    clear s3
    go_wp2_with fail
    refine (rO_any _ _ _).mono ?_
    rintro e w4 ⟨rfl, s4⟩
    have HT4 : Hid (Touch w w4 []) := HT3.out.trans s4 (by simp)
    clear s4
    go_wp2_with fail
    refine (rO_any _ _ _).mono ?_
    rintro e w5 ⟨rfl, s5⟩
    have HT5 : Hid (Touch w w5 []) := HT4.out.trans s5 (by simp)
    clear s5
    go_wp2_with fail
    refine (rO_any _ _ _).mono ?_
    rintro e w6 ⟨rfl, s6⟩
    have HT6 : Hid (Touch w w6 []) := HT5.out.trans s6 (by simp)
    clear s6
    go_wp2_with fail
    refine (rP_any _ (by have := HBD.out; omega) (by have := HBD.out; omega) _).mono ?_
    rintro e w7 ⟨rfl, s7⟩
    have HT7 : Hid (Touch w w7 []) := HT6.out.trans s7 (by simp)
    clear s7
    go_wp2_with fail
    refine (rO_any _ _ _).mono ?_
    rintro e w8 ⟨rfl, s8⟩
    have HT8 : Hid (Touch w w8 []) := HT7.out.trans s8 (by simp)
    clear s8
    go_wp2_with fail
    refine (rO_any _ _ _).mono ?_
    rintro e w9 ⟨rfl, s9⟩
    have HT9 : Hid (Touch w w9 []) := HT8.out.trans s9 (by simp)
    clear s9
    have HP0 : Hid (insOwn (w9.alloc (.cells #[.int .u8 21, .int .i64 23, .int .u64 0, .int .u8 4, .int .i64 t, .int .u64 0, .int .u8 20, .int .i64 22, .int .u64 0, .int .u8 4, .int .i64 (t + 1), .int .u64 0, .int .u8 6, .int .i64 (t + 2), .int .u64 0, .int .u8 4, .int .i64 t, .int .u64 0, .int .u8 1, .int .i64 0, .int .u64 (numV 1), .int .u8 9, .int .i64 0, .int .u64 0, .int .u8 5, .int .i64 t, .int .u64 0] 78)) w.heap.size (.slice (some ⟨w9.heap.size, 0, none⟩) 9 9) [insO 21 23, insO 4 t, insO 20 22, insO 4 (t + 1), insO 6 (t + 2), insO 4 t, insP 1, insO 9 0, insO 5 t]) := fllit HT9.out [insO 21 23, insO 4 t, insO 20 22, insO 4 (t + 1), insO 6 (t + 2), insO 4 t, insP 1, insO 9 0, insO 5 t] _ 9 rfl rfl (by omega)
    have HTP0 : Hid (Touch w (w9.alloc (.cells #[.int .u8 21, .int .i64 23, .int .u64 0, .int .u8 4, .int .i64 t, .int .u64 0, .int .u8 20, .int .i64 22, .int .u64 0, .int .u8 4, .int .i64 (t + 1), .int .u64 0, .int .u8 6, .int .i64 (t + 2), .int .u64 0, .int .u8 4, .int .i64 t, .int .u64 0, .int .u8 1, .int .i64 0, .int .u64 (numV 1), .int .u8 9, .int .i64 0, .int .u64 0, .int .u8 5, .int .i64 t, .int .u64 0] 78)) []) := HT9.out.alloc _
    go_wp2_with fail
    refine (rO_any _ _ _).mono ?_
    rintro e w10 ⟨rfl, s10⟩
    have HT10 : Hid (Touch w w10 []) := HTP0.out.trans s10 (by simp)
    have HO10 : Hid _ := ownsRow_touch HP0.out s10 (by simp)
    clear HP0
    clear s10
    go_wp2_with fail
    refine (rP_any _ (by have := HBD.out; omega) (by have := HBD.out; omega) _).mono ?_
    rintro e w11 ⟨rfl, s11⟩
    have HT11 : Hid (Touch w w11 []) := HT10.out.trans s11 (by simp)
    have HO11 : Hid _ := ownsRow_touch HO10.out s11 (by simp)
    clear HO10
    clear s11
    go_wp2_with fail
    refine (rO_any _ _ _).mono ?_
    rintro e w12 ⟨rfl, s12⟩
    have HT12 : Hid (Touch w w12 []) := HT11.out.trans s12 (by simp)
    have HO12 : Hid _ := ownsRow_touch HO11.out s12 (by simp)
    clear HO11
    clear s12
    go_wp2_with fail
    refine (rO_any _ _ _).mono ?_
    rintro e w13 ⟨rfl, s13⟩
    have HT13 : Hid (Touch w w13 []) := HT12.out.trans s13 (by simp)
    have HO13 : Hid _ := ownsRow_touch HO12.out s13 (by simp)
    clear HO12
    clear s13
    go_wp2_with fail
    refine (rP_any _ (by have := HBD.out; omega) (by have := HBD.out; omega) _).mono ?_
    rintro e w14 ⟨rfl, s14⟩
    have HT14 : Hid (Touch w w14 []) := HT13.out.trans s14 (by simp)
    have HO14 : Hid _ := ownsRow_touch HO13.out s14 (by simp)
    clear HO13
    clear s14
    go_wp2_with fail
    refine (rO_any _ _ _).mono ?_
    rintro e w15 ⟨rfl, s15⟩
    have HT15 : Hid (Touch w w15 []) := HT14.out.trans s15 (by simp)
    have HO15 : Hid _ := ownsRow_touch HO14.out s15 (by simp)
    clear HO14
    clear s15
    go_wp2_with fail
    refine (rO_any _ _ _).mono ?_
    rintro e w16 ⟨rfl, s16⟩
    have HT16 : Hid (Touch w w16 []) := HT15.out.trans s16 (by simp)
    have HO16 : Hid _ := ownsRow_touch HO15.out s16 (by simp)
    clear HO15
    clear s16
    go_wp2_with fail
    refine (rO_any _ _ _).mono ?_
    rintro e w17 ⟨rfl, s17⟩
    have HT17 : Hid (Touch w w17 []) := HT16.out.trans s17 (by simp)
    have HO17 : Hid _ := ownsRow_touch HO16.out s17 (by simp)
    clear HO16
    clear s17
    go_wp2_with fail
    refine (rO_any _ _ _).mono ?_
    rintro e w18 ⟨rfl, s18⟩
    have HT18 : Hid (Touch w w18 []) := HT17.out.trans s18 (by simp)
    have HO18 : Hid _ := ownsRow_touch HO17.out s18 (by simp)
    clear HO17
    clear s18
    obtain ⟨a1, c1, v1, h1, o1, t1⟩ := flstep HO18.out HT18.out [insO 4 (t + 1), insP 1, insO 8 0, insO 16 0, insP s, insO 13 0, insO 20 18, insO 5 (t + 1), insO 19 23] #[.int .u8 4, .int .i64 (t + 1), .int .u64 0, .int .u8 1, .int .i64 0, .int .u64 (numV 1), .int .u8 8, .int .i64 0, .int .u64 0, .int .u8 16, .int .i64 0, .int .u64 0, .int .u8 1, .int .i64 0, .int .u64 (numV s), .int .u8 13, .int .i64 0, .int .u64 0, .int .u8 20, .int .i64 18, .int .u64 0, .int .u8 5, .int .i64 (t + 1), .int .u64 0, .int .u8 19, .int .i64 23, .int .u64 0] 9 9 18 rfl rfl rfl (by omega) rfl
    have HP1 : Hid _ := o1
    have HTP1 : Hid _ := t1
    clear o1 t1 HO18
    go_wp2_with (at_builtin; refine Lib.wpList_append_run _ rfl _ _ _ _ rfl _ _ rfl rfl _ _ h1 ?_)
    refine (rO_any _ _ _).mono ?_
    rintro e w19 ⟨rfl, s19⟩
    have HT19 : Hid (Touch w w19 []) := HTP1.out.trans s19 (by simp)
    have HO19 : Hid _ := ownsRow_touch HP1.out s19 (by simp)
    clear HP1
    clear s19
    go_wp2_with fail
    refine (rP_any _ (by have := HBD.out; omega) (by have := HBD.out; omega) _).mono ?_
    rintro e w20 ⟨rfl, s20⟩
    have HT20 : Hid (Touch w w20 []) := HT19.out.trans s20 (by simp)
    have HO20 : Hid _ := ownsRow_touch HO19.out s20 (by simp)
    clear HO19
    clear s20
    go_wp2_with fail
    refine (rO_any _ _ _).mono ?_
    rintro e w21 ⟨rfl, s21⟩
    have HT21 : Hid (Touch w w21 []) := HT20.out.trans s21 (by simp)
    have HO21 : Hid _ := ownsRow_touch HO20.out s21 (by simp)
    clear HO20
    clear s21
    go_wp2_with fail
    refine (rO_any _ _ _).mono ?_
    rintro e w22 ⟨rfl, s22⟩
    have HT22 : Hid (Touch w w22 []) := HT21.out.trans s22 (by simp)
    have HO22 : Hid _ := ownsRow_touch HO21.out s22 (by simp)
    clear HO21
    clear s22
    go_wp2_with fail
    refine (rO_any _ _ _).mono ?_
    rintro e w23 ⟨rfl, s23⟩
    have HT23 : Hid (Touch w w23 []) := HT22.out.trans s23 (by simp)
    have HO23 : Hid _ := ownsRow_touch HO22.out s23 (by simp)
    clear HO22
    clear s23
    go_wp2_with fail
    refine (rO_any _ _ _).mono ?_
    rintro e w24 ⟨rfl, s24⟩
    have HT24 : Hid (Touch w w24 []) := HT23.out.trans s24 (by simp)
    have HO24 : Hid _ := ownsRow_touch HO23.out s24 (by simp)
    clear HO23
    clear s24
    obtain ⟨a2, c2, v2, h2, o2, t2⟩ := flstep HO24.out HT24.out [insO 17 0, insP 0, insO 5 (t + 1), insO 19 23, insO 26 0, insO 22 0] #[.int .u8 17, .int .i64 0, .int .u64 0, .int .u8 1, .int .i64 0, .int .u64 (numV 0), .int .u8 5, .int .i64 (t + 1), .int .u64 0, .int .u8 19, .int .i64 23, .int .u64 0, .int .u8 26, .int .i64 0, .int .u64 0, .int .u8 22, .int .i64 0, .int .u64 0] 18 6 24 rfl rfl rfl (by omega) rfl
    have HP2 : Hid _ := o2
    have HTP2 : Hid _ := t2
    clear o2 t2 HO24
    have HG : HidC _ _ _ _ _ := HAT.out _ _ _ w.heap.size HP2.out
    clear HAT
    go_wp2_with (at_builtin; refine Lib.wpList_append_run _ rfl _ _ _ _ rfl _ _ rfl rfl _ _ h2 ?_)
    refine HG.out.mono ?_
    intro e w99 h9
    have h9' : LkP w E RL e w99 := LkP.up HTP2.out h9
    clear h9 HG
    rcases h9' with ⟨he, ao, cap, rfl, hin, t9⟩ | ⟨he, rfl, t9⟩
    · have HIn : Hid _ := hin
      have HT99 : Hid _ := t9
      have HE9 : Hid _ := he
      obtain ⟨n9, hn9⟩ : ∃ n9, n9 = RL.length := ⟨_, rfl⟩
      have HN9 : Hid _ := hn9
      rw [← hn9]
      clear hin t9 he hn9
      go_wp2
      refine bodyPost_ret (v := .tuple #[.slice ao n9 cap, .int .i64 0]) (by simp [results, Tryz.results61, go_sem]) rfl ?_
      exact .inl ⟨HE9.out, ao, cap, by rw [HN9.out], HIn.out, HT99.out⟩
    · have HT99 : Hid _ := t9
      have HE9 : Hid _ := he
      clear t9 he
      go_wp2
      refine bodyPost_ret (v := .tuple #[.slice none 0 0, .int .i64 E]) (by simp [results, Tryz.results61, go_sem]) rfl ?_
      exact .inr ⟨HE9.out, rfl, HT99.out⟩
set_option maxRecDepth 100000 in
set_option maxHeartbeats 4000000 in
theorem renter_any (a t s v : Int) (hv : Wf64 v) (w : World) : Calls Tryz.prog 60 #[.int .i64 a, .int .i64 t, .int .i64 s, .int .u64 v] w (LkP w (enterE a t s v) (enterI a t s 0 v)) := by
  obtain ⟨E, hE⟩ : ∃ E, E = enterE a t s v := ⟨_, rfl⟩
  obtain ⟨RL, hRL⟩ : ∃ RL, RL = enterI a t s 0 v := ⟨_, rfl⟩
  rw [← hE, ← hRL]
  unfold enterE enterMay at hE
  have HE : Hid _ := hE
  have HRL : Hid _ := hRL
  clear hE hRL
  have HV : Hid _ := hv
  clear hv
  by_cases gs : s < 1
  · have HE2 : Hid (E = 2) := by show _ = _; rw [HE.out, if_neg (by simp only [Bool.and_eq_true, decide_eq_true_eq]; omega)]
    clear HE
    go_enter Tryz.func60, Tryz.ntmps60
    go_wp2
    refine bodyPost_ret (v := .tuple #[.slice none 0 0, .int .i64 2]) (by simp [results, Tryz.results60, go_sem]) rfl ?_
    exact .inr ⟨by rw [HE2.out]; omega, by rw [HE2.out], Touch.refl _ _⟩
  by_cases g4 : 4 < s
  · have HE2 : Hid (E = 2) := by show _ = _; rw [HE.out, if_neg (by simp only [Bool.and_eq_true, decide_eq_true_eq]; omega)]
    clear HE
    go_enter Tryz.func60, Tryz.ntmps60
    go_wp2
    refine bodyPost_ret (v := .tuple #[.slice none 0 0, .int .i64 2]) (by simp [results, Tryz.results60, go_sem]) rfl ?_
    exact .inr ⟨by rw [HE2.out]; omega, by rw [HE2.out], Touch.refl _ _⟩
  have hws : IntKind.i64.wrap (s + 2) = s + 2 := by rw [IntKind.wrap_i64]; omega
  have HMAY : HidC _ _ _ _ _ := ⟨flmay_any a t (s + 2) s 4 (by omega) w⟩
  have HFM : Hid (fmayP a t (s + 2) s 4 = true ↔ 0 ≤ a ∧ a ≤ 64 ∧ 1 ≤ s ∧ s ≤ 4 ∧ 0 ≤ t ∧ t ≤ 10 - s) := by
    show _ ↔ _
    unfold fmayP
    simp only [Bool.and_eq_true, decide_eq_true_eq]
    omega
  cases hm : fmayP a t (s + 2) s 4 with
  | false =>
    have HE2 : Hid (E = 2) := by show _ = _; rw [HE.out, if_neg (by have := HFM.out; rw [hm] at this; simp only [Bool.and_eq_true, decide_eq_true_eq]; simp only [Bool.false_eq_true, false_iff] at this; omega)]
    rw [hm] at HMAY
    clear HE HFM hm
    go_enter Tryz.func60, Tryz.ntmps60
    go_wp2_with fail
    refine HMAY.out.mono ?_
    rintro e w' ⟨rfl, rfl⟩
    go_wp2
    refine bodyPost_ret (v := .tuple #[.slice none 0 0, .int .i64 2]) (by simp [results, Tryz.results60, go_sem]) rfl ?_
    exact .inr ⟨by rw [HE2.out]; omega, by rw [HE2.out], Touch.refl _ _⟩
  | true =>
    have hb := HFM.out.1 hm
    rw [hm] at HMAY
    clear hm HFM
    have HBD : Hid _ := hb
    have hw1 : IntKind.i64.wrap (t + 1) = t + 1 := by rw [IntKind.wrap_i64]; omega
    have hw2 : IntKind.i64.wrap (t + 2) = t + 2 := by rw [IntKind.wrap_i64]; omega
    have HE1 : Hid (E = if rightB v then (if a + 23 > 64 then 4 else 0) else 3) := by show _ = _; rw [HE.out, if_pos (by simp only [Bool.and_eq_true, decide_eq_true_eq]; omega)]
    have HRT : HidC _ _ _ _ _ := ⟨rright_any v HV.out w⟩
    cases hr : rightB v with
    | false =>
      have HE2 : Hid (E = 3) := by show _ = _; rw [HE1.out, hr]; rfl
      rw [hr] at HRT
      clear hr HE1 HE hb hw1 hw2
      go_enter Tryz.func60, Tryz.ntmps60
      go_wp2_with fail
      refine HMAY.out.mono ?_
      rintro e w' ⟨rfl, rfl⟩
      go_wp2_with fail
      refine HRT.out.mono ?_
      rintro e w' ⟨rfl, rfl⟩
      go_wp2
      refine bodyPost_ret (v := .tuple #[.slice none 0 0, .int .i64 3]) (by simp [results, Tryz.results60, go_sem]) rfl ?_
      exact .inr ⟨by rw [HE2.out]; omega, by rw [HE2.out], Touch.refl _ _⟩
    | true =>
      have HE2 : Hid (E = if a + 23 > 64 then 4 else 0) := by show _ = _; rw [HE1.out, hr]; rfl
      rw [hr] at HRT
      clear hr HE1
      have HAT : Hid (∀ (W : World) ao cap B, insOwn W B (.slice ao 23 cap) (enterM t s 0 v) → HidC Tryz.prog 97 #[.int .i64 a, .slice ao 23 cap] W (LkP W E RL)) := by
        intro W ao cap B ho
        have hall := enterM_wf t s 0 v (by omega) HV.out
        obtain ⟨ao2, cap2, e2, hin⟩ := insIn_of ho (fun i hi => (hall i hi).1)
        simp only [Value.slice.injEq] at e2
        obtain ⟨rfl, _, rfl⟩ := e2
        have := rat_any (a := a) (by omega) (by omega) hin (by show 23 ≤ 100; omega) (fun i hi => (hall i hi).2)
        rw [enterI_map, ← HRL.out] at this
        rw [HE2.out]
        exact ⟨this⟩
      clear HE hb
      go_enter Tryz.func60, Tryz.ntmps60
      go_wp2_with fail
      refine HMAY.out.mono ?_
      rintro e w' ⟨rfl, rfl⟩
      go_wp2_with fail
      refine HRT.out.mono ?_
      rintro e w' ⟨rfl, rfl⟩
      have HT0 : Hid (Touch w w []) := Touch.refl _ _
      go_wp2_with fail
      refine (rO_any _ _ _).mono ?_
      rintro e w1 ⟨rfl, s1⟩
      have HT1 : Hid (Touch w w1 []) := HT0.out.trans s1 (by simp)
      clear s1
      go_wp2_with fail
      refine (rO_any _ _ _).mono ?_
      rintro e w2 ⟨rfl, s2⟩
      have HT2 : Hid (Touch w w2 []) := HT1.out.trans s2 (by simp)
      clear s2
      go_wp2_with fail
      refine (rP_any _ (by have := HBD.out; omega) (by have := HBD.out; omega) _).mono ?_
      rintro e w3 ⟨rfl, s3⟩
      have HT3 : Hid (Touch w w3 []) := HT2.out.trans s3 (by simp)
      clear s3
      go_wp2_with fail
      refine (rO_any _ _ _).mono ?_
      rintro e w4 ⟨rfl, s4⟩
      have HT4 : Hid (Touch w w4 []) := HT3.out.trans s4 (by simp)
      clear s4
      go_wp2_with fail
      refine (rO_any _ _ _).mono ?_
      rintro e w5 ⟨rfl, s5⟩
      have HT5 : Hid (Touch w w5 []) := HT4.out.trans s5 (by simp)
      clear s5
      go_wp2_with fail
      refine (rO_any _ _ _).mono ?_
      rintro e w6 ⟨rfl, s6⟩
      have HT6 : Hid (Touch w w6 []) := HT5.out.trans s6 (by simp)
      clear s6
      have HP0 : Hid (insOwn (w6.alloc (.cells #[.int .u8 21, .int .i64 22, .int .u64 0, .int .u8 4, .int .i64 t, .int .u64 0, .int .u8 1, .int .i64 0, .int .u64 (numV s), .int .u8 14, .int .i64 0, .int .u64 0, .int .u8 20, .int .i64 6, .int .u64 0, .int .u8 26, .int .i64 0, .int .u64 0] 78)) w.heap.size (.slice (some ⟨w6.heap.size, 0, none⟩) 6 6) [insO 21 22, insO 4 t, insP s, insO 14 0, insO 20 6, insO 26 0]) := fllit HT6.out [insO 21 22, insO 4 t, insP s, insO 14 0, insO 20 6, insO 26 0] _ 6 rfl rfl (by omega)
      have HTP0 : Hid (Touch w (w6.alloc (.cells #[.int .u8 21, .int .i64 22, .int .u64 0, .int .u8 4, .int .i64 t, .int .u64 0, .int .u8 1, .int .i64 0, .int .u64 (numV s), .int .u8 14, .int .i64 0, .int .u64 0, .int .u8 20, .int .i64 6, .int .u64 0, .int .u8 26, .int .i64 0, .int .u64 0] 78)) []) := HT6.out.alloc _
      go_wp2_with fail
      refine (rO_any _ _ _).mono ?_
      rintro e w7 ⟨rfl, s7⟩
      have HT7 : Hid (Touch w w7 []) := HTP0.out.trans s7 (by simp)
      have HO7 : Hid _ := ownsRow_touch HP0.out s7 (by simp)
      clear HP0
      clear s7
      go_wp2_with fail
      refine (rO_any _ _ _).mono ?_
      rintro e w8 ⟨rfl, s8⟩
      have HT8 : Hid (Touch w w8 []) := HT7.out.trans s8 (by simp)
      have HO8 : Hid _ := ownsRow_touch HO7.out s8 (by simp)
      clear HO7
      clear s8
      go_wp2_with fail
      refine (rO_any _ _ _).mono ?_
      rintro e w9 ⟨rfl, s9⟩
      have HT9 : Hid (Touch w w9 []) := HT8.out.trans s9 (by simp)
      have HO9 : Hid _ := ownsRow_touch HO8.out s9 (by simp)
      clear HO8
      clear s9
      go_wp2_with fail
      refine (rO_any _ _ _).mono ?_
      rintro e w10 ⟨rfl, s10⟩
      have HT10 : Hid (Touch w w10 []) := HT9.out.trans s10 (by simp)
      have HO10 : Hid _ := ownsRow_touch HO9.out s10 (by simp)
      clear HO9
      clear s10
      go_wp2_with fail
      refine (rP_any _ (by have := HBD.out; omega) (by have := HBD.out; omega) _).mono ?_
      rintro e w11 ⟨rfl, s11⟩
      have HT11 : Hid (Touch w w11 []) := HT10.out.trans s11 (by simp)
      have HO11 : Hid _ := ownsRow_touch HO10.out s11 (by simp)
      clear HO10
      clear s11
      go_wp2_with fail
      refine (rO_any _ _ _).mono ?_
      rintro e w12 ⟨rfl, s12⟩
      have HT12 : Hid (Touch w w12 []) := HT11.out.trans s12 (by simp)
      have HO12 : Hid _ := ownsRow_touch HO11.out s12 (by simp)
      clear HO11
      clear s12
      go_wp2_with fail
      refine (rO_any _ _ _).mono ?_
      rintro e w13 ⟨rfl, s13⟩
      have HT13 : Hid (Touch w w13 []) := HT12.out.trans s13 (by simp)
      have HO13 : Hid _ := ownsRow_touch HO12.out s13 (by simp)
      clear HO12
      clear s13
      go_wp2_with fail
      refine (rO_any _ _ _).mono ?_
      rintro e w14 ⟨rfl, s14⟩
      have HT14 : Hid (Touch w w14 []) := HT13.out.trans s14 (by simp)
      have HO14 : Hid _ := ownsRow_touch HO13.out s14 (by simp)
      clear HO13
      clear s14
      obtain ⟨a1, c1, v1, h1, o1, t1⟩ := flstep HO14.out HT14.out [⟨1, 0, v⟩, insO 4 (t + 1), insO 4 t, insO 8 0, insO 16 0, insP s, insO 13 0, insO 20 15, insO 19 17] #[.int .u8 1, .int .i64 0, .int .u64 v, .int .u8 4, .int .i64 (t + 1), .int .u64 0, .int .u8 4, .int .i64 t, .int .u64 0, .int .u8 8, .int .i64 0, .int .u64 0, .int .u8 16, .int .i64 0, .int .u64 0, .int .u8 1, .int .i64 0, .int .u64 (numV s), .int .u8 13, .int .i64 0, .int .u64 0, .int .u8 20, .int .i64 15, .int .u64 0, .int .u8 19, .int .i64 17, .int .u64 0] 6 9 15 rfl rfl rfl (by omega) rfl
      have HP1 : Hid _ := o1
      have HTP1 : Hid _ := t1
      clear o1 t1 HO14
      go_wp2_with (at_builtin; refine Lib.wpList_append_run _ rfl _ _ _ _ rfl _ _ rfl rfl _ _ h1 ?_)
      refine (rP_any _ (by have := HBD.out; omega) (by have := HBD.out; omega) _).mono ?_
      rintro e w15 ⟨rfl, s15⟩
      have HT15 : Hid (Touch w w15 []) := HTP1.out.trans s15 (by simp)
      have HO15 : Hid _ := ownsRow_touch HP1.out s15 (by simp)
      clear HP1
      clear s15
      go_wp2_with fail
      refine (rO_any _ _ _).mono ?_
      rintro e w16 ⟨rfl, s16⟩
      have HT16 : Hid (Touch w w16 []) := HT15.out.trans s16 (by simp)
      have HO16 : Hid _ := ownsRow_touch HO15.out s16 (by simp)
      clear HO15
      clear s16
      go_wp2_with fail
      refine (rO_any _ _ _).mono ?_
      rintro e w17 ⟨rfl, s17⟩
      have HT17 : Hid (Touch w w17 []) := HT16.out.trans s17 (by simp)
      have HO17 : Hid _ := ownsRow_touch HO16.out s17 (by simp)
      clear HO16
      clear s17
      go_wp2_with fail
      refine (rO_any _ _ _).mono ?_
      rintro e w18 ⟨rfl, s18⟩
      have HT18 : Hid (Touch w w18 []) := HT17.out.trans s18 (by simp)
      have HO18 : Hid _ := ownsRow_touch HO17.out s18 (by simp)
      clear HO17
      clear s18
      go_wp2_with fail
      refine (rP_any _ (by have := HBD.out; omega) (by have := HBD.out; omega) _).mono ?_
      rintro e w19 ⟨rfl, s19⟩
      have HT19 : Hid (Touch w w19 []) := HT18.out.trans s19 (by simp)
      have HO19 : Hid _ := ownsRow_touch HO18.out s19 (by simp)
      clear HO18
      clear s19
      go_wp2_with fail
      refine (rO_any _ _ _).mono ?_
      rintro e w20 ⟨rfl, s20⟩
      have HT20 : Hid (Touch w w20 []) := HT19.out.trans s20 (by simp)
      have HO20 : Hid _ := ownsRow_touch HO19.out s20 (by simp)
      clear HO19
      clear s20
      go_wp2_with fail
      refine (rO_any _ _ _).mono ?_
      rintro e w21 ⟨rfl, s21⟩
      have HT21 : Hid (Touch w w21 []) := HT20.out.trans s21 (by simp)
      have HO21 : Hid _ := ownsRow_touch HO20.out s21 (by simp)
      clear HO20
      clear s21
      go_wp2_with fail
      refine (rO_any _ _ _).mono ?_
      rintro e w22 ⟨rfl, s22⟩
      have HT22 : Hid (Touch w w22 []) := HT21.out.trans s22 (by simp)
      have HO22 : Hid _ := ownsRow_touch HO21.out s22 (by simp)
      clear HO21
      clear s22
      obtain ⟨a2, c2, v2, h2, o2, t2⟩ := flstep HO22.out HT22.out [insP s, insO 9 0, insO 7 (t + 2), insO 4 t, insP 1, insO 8 0, insO 5 t, insO 22 0] #[.int .u8 1, .int .i64 0, .int .u64 (numV s), .int .u8 9, .int .i64 0, .int .u64 0, .int .u8 7, .int .i64 (t + 2), .int .u64 0, .int .u8 4, .int .i64 t, .int .u64 0, .int .u8 1, .int .i64 0, .int .u64 (numV 1), .int .u8 8, .int .i64 0, .int .u64 0, .int .u8 5, .int .i64 t, .int .u64 0, .int .u8 22, .int .i64 0, .int .u64 0] 15 8 23 rfl rfl rfl (by omega) rfl
      have HP2 : Hid _ := o2
      have HTP2 : Hid _ := t2
      clear o2 t2 HO22
      have HG : HidC _ _ _ _ _ := HAT.out _ _ _ w.heap.size HP2.out
      clear HAT
      go_wp2_with (at_builtin; refine Lib.wpList_append_run _ rfl _ _ _ _ rfl _ _ rfl rfl _ _ h2 ?_)
      refine HG.out.mono ?_
      intro e w99 h9
      have h9' : LkP w E RL e w99 := LkP.up HTP2.out h9
      clear h9 HG
      rcases h9' with ⟨he, ao, cap, rfl, hin, t9⟩ | ⟨he, rfl, t9⟩
      · have HIn : Hid _ := hin
        have HT99 : Hid _ := t9
        have HE9 : Hid _ := he
        obtain ⟨n9, hn9⟩ : ∃ n9, n9 = RL.length := ⟨_, rfl⟩
        have HN9 : Hid _ := hn9
        rw [← hn9]
        clear hin t9 he hn9
        go_wp2
        refine bodyPost_ret (v := .tuple #[.slice ao n9 cap, .int .i64 0]) (by simp [results, Tryz.results60, go_sem]) rfl ?_
        exact .inl ⟨HE9.out, ao, cap, by rw [HN9.out], HIn.out, HT99.out⟩
      · have HT99 : Hid _ := t9
        have HE9 : Hid _ := he
        clear t9 he
        go_wp2
        refine bodyPost_ret (v := .tuple #[.slice none 0 0, .int .i64 E]) (by simp [results, Tryz.results60, go_sem]) rfl ?_
        exact .inr ⟨HE9.out, rfl, HT99.out⟩

end Go.Proofs.YtcbkafbchpjnoaaGreatDoor
