/-
  THE DOCUMENT's At AND may BY THEIR CONTRACTS.
-/
import Derived.Test.YtcbkafbchpjnoaaGreatDoorLkBlock
namespace Go.Proofs.YtcbkafbchpjnoaaGreatDoor
set_option linter.unusedVariables false
set_option linter.unusedSimpArgs false
open Go.RowKit
attribute [local go_sem] Oper.semAt_some

theorem rmay_any (a t u : Int) (w : World) : Calls Tryz.prog 96 #[.int .i64 a, .int .i64 t, .int .i64 u] w fun e w' => e = .returned (.int .i64 (if mayP a t u then 0 else 2)) ∧ w = w' := by
  obtain ⟨r, hr⟩ : ∃ r : Int, (if mayP a t u then (0 : Int) else 2) = r := ⟨_, rfl⟩
  rw [hr]
  unfold mayP at hr
  by_cases h1 : ¬ 0 ≤ a
  · have he : r = 2 := by rw [← hr]; simp [h1]
    subst he
    clear hr
    go_enter Tryz.func96, Tryz.ntmps96
    go_wp2
    go_ret
    exact ⟨rfl, rfl⟩
  have h1 : 0 ≤ a := by omega
  by_cases h2 : ¬ a ≤ 64
  · have he : r = 2 := by rw [← hr]; simp [h1, h2]
    subst he
    clear hr
    go_enter Tryz.func96, Tryz.ntmps96
    go_wp2
    go_ret
    exact ⟨rfl, rfl⟩
  have h2 : a ≤ 64 := by omega
  by_cases h3 : ¬ 0 ≤ t
  · have he : r = 2 := by rw [← hr]; simp [h1, h2, h3]
    subst he
    clear hr
    go_enter Tryz.func96, Tryz.ntmps96
    go_wp2
    go_ret
    exact ⟨rfl, rfl⟩
  have h3 : 0 ≤ t := by omega
  by_cases h4 : ¬ t < 12
  · have he : r = 2 := by rw [← hr]; simp [h1, h2, h3, h4]
    subst he
    clear hr
    go_enter Tryz.func96, Tryz.ntmps96
    go_wp2
    go_ret
    exact ⟨rfl, rfl⟩
  have h4 : t < 12 := by omega
  by_cases h5 : ¬ 0 ≤ u
  · have he : r = 2 := by rw [← hr]; simp [h1, h2, h3, h4, h5]
    subst he
    clear hr
    go_enter Tryz.func96, Tryz.ntmps96
    go_wp2
    go_ret
    exact ⟨rfl, rfl⟩
  have h5 : 0 ≤ u := by omega
  by_cases h6 : ¬ u < 4
  · have he : r = 2 := by rw [← hr]; simp [h1, h2, h3, h4, h5, h6]
    subst he
    clear hr
    go_enter Tryz.func96, Tryz.ntmps96
    go_wp2
    go_ret
    exact ⟨rfl, rfl⟩
  have h6 : u < 4 := by omega
  have he : r = 0 := by rw [← hr]; simp [h1, h2, h3, h4, h5, h6]
  subst he
  clear hr
  go_enter Tryz.func96, Tryz.ntmps96
  go_wp2
  go_ret
  exact ⟨rfl, rfl⟩

set_option maxRecDepth 100000 in
set_option maxHeartbeats 1000000 in
theorem rat_any {w : World} {a : Int} (ha0 : 0 ≤ a) (ha1 : a ≤ 64) {ao : Option Addr} {cap : Nat} {M : List InsD} (h : InsIn w ao M.length cap M) (hM : M.length ≤ 100) (hb : ∀ i ∈ M, (0 ≤ i.arg ∧ i.arg ≤ 1000) ∧ i.op ≠ 23 ∧ i.op ≠ 24) :
    Calls Tryz.prog 97 #[.int .i64 a, .slice ao M.length cap] w (LkP w (if a + (M.length : Nat) > 64 then 4 else 0) (M.map (shI a))) := by
  have HR : Hid (InsRowC w (.slice ao M.length cap) M) := h.row
  have HM : Hid (∀ k (hk : k < M.length), M[k].Wf ∧ (0 ≤ M[k].arg ∧ M[k].arg ≤ 1000) ∧ M[k].op ≠ 23 ∧ M[k].op ≠ 24) := fun k hk => ⟨h.wf _ (List.getElem_mem hk), hb _ (List.getElem_mem hk)⟩
  have HE : Hid ((if a + (M.length : Nat) > 64 then (4 : Int) else 0) = if a + (M.length : Nat) > 64 then 4 else 0) := rfl
  obtain ⟨N, hN⟩ : ∃ N, N = M.length := ⟨_, rfl⟩
  have HN : Hid _ := hN
  have HBL : Hid (M.map (shI a) = M.map (shI a)) := rfl
  rw [← hN] at hM HE ⊢
  clear h hb hN
  by_cases h64 : a + (N : Int) > 64
  · rw [if_pos h64]
    have h1 : (64 : Int) - a < N := by omega
    generalize M.map (shI a) = RL at *
    go_enter Tryz.func97, Tryz.ntmps97
    go_wp2
    refine bodyPost_ret (v := .tuple #[.slice none 0 0, .int .i64 4]) (by simp [results, Tryz.results97, go_sem]) rfl ?_
    exact .inr ⟨by omega, rfl, Touch.refl _ _⟩
  · rw [if_neg h64]
    have h1 : ¬ (64 : Int) - a < N := by omega
    obtain ⟨RL, hRL⟩ : ∃ RL, RL = M.map (shI a) := ⟨_, rfl⟩
    have HRL : Hid _ := hRL
    rw [← hRL]
    clear hRL HBL
    go_enter Tryz.func97, Tryz.ntmps97
    go_wp2_with fail
    go_loopw [6, 7] (fun v i wr => ∃ k : Nat, i = .int .i64 k ∧ k ≤ N ∧ insOwn wr w.heap.size v ((M.take k).map (shI a)) ∧ Touch w wr []) (fun _ i _ => N - (intOf i).toNat)
    case atStart => exact ⟨0, rfl, Nat.zero_le _, World.ownsRow_nil _ _ _ _, Touch.refl _ _⟩
    case round =>
      obtain ⟨k, rfl, hk, hrow, hT⟩ := hrel
      by_cases hlt : k < N
      · have h2 : (k : Int) < N := by omega
        have h0 : (0 : Int) ≤ k := by omega
        have hkl : k < M.length := by rw [← HN.out]; exact hlt
        obtain ⟨g, off, rfl, d0, d1, d2⟩ := ins_at HR.out hT (by simp) k hkl
        obtain ⟨hwf, ⟨hb0, hb1⟩, n23, n24⟩ := HM.out k hkl
        have HK : Hid ((M.take (k + 1)).map (shI a) = (M.take k).map (shI a) ++ [shI a M[k]]) := by show _ = _; rw [List.take_succ_eq_append_getElem hkl, List.map_append]; rfl
        have hlen : ((M.take k).map (shI a)).length = k := by rw [List.length_map, List.length_take]; omega
        have HT : Hid _ := hT
        have hsz := hT.size
        have HROW : Hid _ := hrow
        have HLEN : Hid _ := hlen
        generalize M[k] = i at *
        obtain ⟨io, ia, iv⟩ := i
        simp only at d0 d1 d2 hb0 hb1 n23 n24
        have hwr : IntKind.i64.wrap (ia + a) = ia + a := by rw [IntKind.wrap_i64]; omega
        obtain ⟨av, cv, rfl⟩ := owns_slice hrow
        have HAP : Hid (∀ x : InsD, ∃ ao' cap' w', (Builtin.append_ #[25, 25] 25 #[.slice av k cv, .slice (some ⟨wr.heap.size + 1, 0, none⟩) 1 1]).run Tryz.prog ((wr.alloc (.cells #[.int .u8 x.op, .int .i64 x.arg, .int .u64 x.val] 78)).alloc (.cells #[.int .u8 x.op, .int .i64 x.arg, .int .u64 x.val] 78)) = .ok (.slice ao' (k + 1) cap') w' ∧ insOwn w' w.heap.size (.slice ao' (k + 1) cap') ((M.take k).map (shI a) ++ [x]) ∧ Touch w w' []) := by
          intro x
          have tA : Touch wr (wr.alloc (.cells #[.int .u8 x.op, .int .i64 x.arg, .int .u64 x.val] 78)) [] := (Touch.refl _ _).alloc _
          obtain ⟨ao', cap', w', r, o, t⟩ := ins_push (ownsRow_touch HROW.out tA (by simp)) (by rw [HLEN.out]; omega) (by simp; omega) x 25
          have hh : (wr.alloc (.cells #[.int .u8 x.op, .int .i64 x.arg, .int .u64 x.val] 78)).heap.size = wr.heap.size + 1 := by simp
          rw [hh, HLEN.out] at r
          rw [HLEN.out] at o
          refine ⟨ao', cap', w', r, o, (HT.out.trans tA (by simp)).trans t (fun y hy => .inr ?_)⟩
          rcases HROW.out.2 with ⟨e, _⟩ | ⟨g', cap'', cur, e, hb', _⟩
          · rw [e] at hy; simp [Value.ownBlock] at hy
          · rw [e] at hy; simp [Value.ownBlock] at hy; omega
        rw [hlen]
        clear hT hrow hlen hwf
        go_wp2_with fail
        refine (rplace_any _ n23 n24 _).mono ?_
        rintro e w6 ⟨rfl, rfl⟩
        have hsI : Hid (shI a ⟨io, ia, iv⟩ = if goesP io then ⟨io, ia + a, iv⟩ else ⟨io, ia, iv⟩) := rfl
        cases hgo : goesP io with
        | true =>
          obtain ⟨a3, c3, w3, r3, o3, t3⟩ := HAP.out ⟨io, ia + a, iv⟩
          have HO : Hid (insOwn w3 w.heap.size (.slice a3 (k + 1) c3) ((M.take (k + 1)).map (shI a))) := by rw [HK.out, hsI.out, if_pos hgo]; exact o3
          have HT3 : Hid _ := t3
          simp only at r3
          clear o3 t3 hgo hsI HAP
          go_wp2_with (at_builtin; refine Lib.wpList_append_run _ rfl (.tmp 32) (.tmp 34) _ _ rfl _ _ rfl rfl _ _ r3 ?_)
          go_roundw
          case rel => exact ⟨k + 1, by go_num, by omega, HO.out, HT3.out⟩
          case measure => simp [intOf]; omega
        | false =>
          obtain ⟨a3, c3, w3, r3, o3, t3⟩ := HAP.out ⟨io, ia, iv⟩
          have HO : Hid (insOwn w3 w.heap.size (.slice a3 (k + 1) c3) ((M.take (k + 1)).map (shI a))) := by rw [HK.out, hsI.out, if_neg (by rw [hgo]; simp)]; exact o3
          have HT3 : Hid _ := t3
          simp only at r3
          clear o3 t3 hgo hsI HAP
          go_wp2_with (at_builtin; refine Lib.wpList_append_run _ rfl (.tmp 32) (.tmp 34) _ _ rfl _ _ rfl rfl _ _ r3 ?_)
          go_roundw
          case rel => exact ⟨k + 1, by go_num, by omega, HO.out, HT3.out⟩
          case measure => simp [intOf]; omega
      · have h2 : ¬ (k : Int) < N := by omega
        have hkN : k = M.length := by rw [← HN.out]; omega
        rw [hkN, List.take_length, ← HRL.out] at hrow
        have HWF : ∀ i ∈ RL, i.Wf := by
          intro i hi
          rw [HRL.out] at hi
          obtain ⟨j, hj, rfl⟩ := List.mem_map.1 hi
          obtain ⟨k', hk', rfl⟩ := List.getElem_of_mem hj
          obtain ⟨hwf, hb, _⟩ := HM.out k' hk'
          exact shI_wf ha0 ha1 hwf hb
        obtain ⟨ao6, c6, rfl, hin⟩ := insIn_of hrow HWF
        have HIN : Hid _ := hin
        have HT : Hid _ := hT
        clear hrow hT hin HWF
        obtain ⟨n6, hn6⟩ : ∃ n6, n6 = RL.length := ⟨_, rfl⟩
        have HN6 : Hid _ := hn6
        rw [← hn6]
        clear hn6
        go_wp2
        refine bodyPost_ret (v := .tuple #[.slice ao6 n6 c6, .int .i64 0]) (by simp [results, Tryz.results97, go_sem]) rfl ?_
        exact .inl ⟨rfl, ao6, c6, by rw [HN6.out], HIN.out, HT.out⟩

end Go.Proofs.YtcbkafbchpjnoaaGreatDoor
