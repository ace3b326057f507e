/-
  TopLength, WALKED (what code.words tells at its last place is handed in).
-/
import Derived.Test.YtakmfemhdikkcabDoorTopLen
namespace Go.Proofs.YtakmfemhdikkcabDoor
set_option linter.unusedVariables false
set_option linter.unusedSimpArgs false
open Go.RowKit
attribute [local go_sem] Oper.semAt_some

theorem flat_ucell (l : List Int) : l.flatMap ucell = l.map (Value.int .u8) := by
  induction l with
  | nil => rfl
  | cons x l ih => rw [List.flatMap_cons, ih, List.map_cons]; rfl

set_option maxRecDepth 100000 in
set_option maxHeartbeats 2000000 in
theorem toplen_any (ao : Option Addr) (cap : Nat) (l0 : List InsD) (w : World) (hwd : Wd w) (hr : InsRow w (.slice ao l0.length cap) l0) (hwf : ∀ i ∈ l0, i.Wf) (hc0 : l0.length ≤ cap) (hl : l0.length ≤ maxLen) :
    Calls Tryd.prog 3 #[.slice ao l0.length cap] w fun e w' => e = .returned (.bool true) ∧ Touch w w' [] := by
  have hl2 : l0.length ≤ 9223372036854775807 := by unfold maxLen at hl; omega
  obtain ⟨l, hle⟩ : ∃ l, l = l0.take 60 := ⟨_, rfl⟩
  have hN60 : l.length ≤ 60 := by rw [hle, List.length_take]; omega
  have HW : Hid (∀ i ∈ l, i.Wf) := fun i hi => hwf i (by rw [hle] at hi; exact List.mem_of_mem_take hi)
  have HR : Hid (InsRow w (.slice ao l.length cap) l) := by
    have := insrow_take hr l.length cap (by rw [hle, List.length_take]; omega)
    have e : l0.take l.length = l := by rw [hle, List.length_take, ← List.take_take]; simp
    rw [e] at this
    exact this
  have HWD : Hid _ := hwd
  obtain ⟨N, hN⟩ : ∃ N, N = l.length := ⟨_, rfl⟩
  have HN : Hid _ := hN
  by_cases h60 : 60 < l0.length
  · have hN6 : N = 60 := by rw [hN, hle, List.length_take]; omega
    obtain ⟨g, off, rfl, hg, hx⟩ := hr.at 0 (by omega)
    clear hx
    have h61 : (60 : Int) < l0.length := by omega
    have hc60 : (60 : Int) ≤ cap := by omega
    have hcne : (60 : Nat) ≤ cap := by omega
    rw [← hN] at hN60
    clear hr hwf hl hle hN hwd
    generalize l0.length = Z at *
    go_enter Tryd.func3, Tryd.ntmps3
    go_wp2_with fail
    subst hN6
    go_loopw [3, 4, 5] (fun vn v i wr => ∃ k : Nat, i = .int .i64 k ∧ k ≤ 60 ∧ vn = .int .i64 ((encL ((l.take k).filter rightI)).length : Int) ∧ insOwn wr w.heap.size v ((l.take k).filter rightI) ∧ Touch w wr []) (fun _ _ i _ => 60 - (intOf i).toNat)
    case atStart => exact ⟨0, rfl, Nat.zero_le _, rfl, World.ownsRow_nil _ _ _ _, Touch.refl _ _⟩
    case round =>
      obtain ⟨k, rfl, hk, rfl, hrow, hT⟩ := hrel
      have HT : Hid _ := hT
      by_cases hlt : k < 60
      · have h1 : (k : Int) < 60 := by omega
        have h0 : (0 : Int) ≤ k := by omega
        have hkl : k < l.length := by rw [← HN.out]; exact hlt
        obtain ⟨g, off, eao, d0, d1, d2⟩ := ins_at HR.out hT (by simp) k hkl
        first | subst eao | (simp only [Option.some.injEq, Addr.mk.injEq] at eao; obtain ⟨rfl, rfl, _⟩ := eao)
        have HAT : Hid (∀ W, Touch w W [] → W.cell? ⟨g, off + k * 3, none⟩ = some (.int .u8 l[k].op)) := fun W T => by
          obtain ⟨g', off', eg, f0, _, _⟩ := ins_at HR.out T (by simp) k hkl
          simp only [Option.some.injEq, Addr.mk.injEq] at eg
          obtain ⟨rfl, rfl, _⟩ := eg
          exact f0
        have HSN : Hid _ := encL_filter_snoc hkl
        have hfl : ((l.take k).filter rightI).length ≤ 60 := Nat.le_trans (List.length_filter_le _ _) (by rw [List.length_take]; omega)
        have hbl := Nat.le_trans (encL_len ((l.take k).filter rightI)) (show 10 * ((l.take k).filter rightI).length ≤ 600 by omega)
        generalize l[k] = i at *
        have hrt : HidC _ _ _ _ _ := ⟨cright_any i wr⟩
        have hgw : g < wr.heap.size := World.block_lt_of_cell? wr ⟨g, off + k * 3, none⟩ d0
        have HCE : Hid (∀ W, Touch wr W [] → W.cell? ⟨g, off + k * 3, none⟩ = some (.int .u8 i.op) ∧ W.cell? ⟨g, off + k * 3 + 1, none⟩ = some (.int .i64 i.arg) ∧ W.cell? ⟨g, off + k * 3 + 2, none⟩ = some (.int .u64 i.val)) := fun W T => ⟨(T.cell (p := ⟨g, off + k * 3, none⟩) hgw (by simp)).trans d0, (T.cell (p := ⟨g, off + k * 3 + 1, none⟩) hgw (by simp)).trans d1, (T.cell (p := ⟨g, off + k * 3 + 2, none⟩) hgw (by simp)).trans d2⟩
        have HU : Hid (∀ W, HidC _ _ _ W _) := fun W => ⟨uses_any i.op W⟩
        have hel : encL ((l.take k).filter rightI ++ [i]) = encL ((l.take k).filter rightI) ++ encI i := by unfold encL; rw [List.flatMap_append]; simp
        have hwid := encI_width i
        have HROW : Hid _ := hrow
        simp only [InsD.v] at hrt
        clear hT
        go_wp2_with fail
        refine hrt.out.mono ?_
        rintro e w2 ⟨rfl, t2⟩
        clear hrt
        have HT2 : Hid _ := HT.out.trans t2 (by simp)
        cases hri : rightI i with
        | false =>
          have HF : Hid ((l.take (k + 1)).filter rightI = (l.take k).filter rightI) := by show _ = _; rw [HSN.out, if_neg (by rw [hri]; simp)]
          have HR2 : Hid (insOwn w2 w.heap.size _ _) := ownsRow_touch HROW.out t2 (by simp)
          obtain ⟨av, cv, rfl⟩ := owns_slice hrow
          clear hri t2 hrow
          go_wp2
          go_roundw
          case rel => exact ⟨k + 1, by go_num, by omega, by rw [HF.out], by rw [HF.out]; exact HR2.out, HT2.out⟩
          case measure => simp [intOf]; omega
        | true =>
          have HF : Hid ((l.take (k + 1)).filter rightI = (l.take k).filter rightI ++ [i]) := by show _ = _; rw [HSN.out, if_pos hri]
          have hr2 : insOwn w2 w.heap.size _ _ := ownsRow_touch HROW.out t2 (by simp)
          obtain ⟨a4, c4, w4, hr4, ho4, t4⟩ := ins_push hr2 (by omega) HT2.out.size i 22
          have HO4 : Hid _ := ho4
          obtain ⟨e0, e1, e2⟩ := HCE.out w2 t2
          have hgl := World.block_lt_of_cell? w2 _ e0
          have hT4 : Touch w w4 [] := HT2.out.trans t4 (fun q hq => .inr (by
            rcases hr2.2 with ⟨e5, _⟩ | ⟨g5, cap5, cur5, e5, hb5, _⟩
            · rw [e5] at hq; simp [Value.ownBlock] at hq
            · rw [e5] at hq; simp [Value.ownBlock] at hq; omega))
          have HT4 : Hid _ := hT4
          have f0 := HAT.out w4 hT4
          obtain ⟨av, cv, rfl⟩ := owns_slice hr2
          have hu : HidC _ _ _ _ _ := HU.out w4
          have hw0 : (widthP i.op : Int) = 1 + (if argP i.op then 1 else 0) + (if valP i.op then 8 else 0) := by unfold widthP; cases argP i.op <;> cases valP i.op <;> rfl
          have HLEN : Hid (((encL ((l.take k).filter rightI ++ [i])).length : Int) = (encL ((l.take k).filter rightI)).length + (1 + (if argP i.op then 1 else 0) + (if valP i.op then 8 else 0))) := by
            show _ = _
            rw [← hw0, hel, List.length_append, ← hwid]; omega
          generalize hTL : ((l.take k).filter rightI).length = TL at hr4 hfl ⊢
          have HTL : Hid _ := hTL
          generalize hEL : (encL ((l.take k).filter rightI)).length = EL at hbl HLEN ⊢
          clear hr2 hrow hT4 ho4 t4 t2 hTL hEL hel hwid hw0 hri
          go_wp2_with (at_builtin; refine Lib.wpList_append_run _ rfl _ _ _ _ rfl _ _ rfl rfl _ _ hr4 ?_)
          clear hr4 e0 e1 e2 d0 d1 d2
          go_wp2_with fail
          refine hu.out.mono ?_
          rintro e w5 ⟨rfl, rfl⟩
          clear hu
          cases hA : argP i.op with
          | false =>
            cases hV : valP i.op with
            | false =>
              go_wp2
              go_roundw
              case rel => exact ⟨k + 1, by go_num, by omega, by rw [HF.out, HLEN.out, hA, hV]; go_num, by rw [HF.out, ← HTL.out]; exact HO4.out, HT4.out⟩
              case measure => simp [intOf]; omega
            | true =>
              go_wp2
              go_roundw
              case rel => exact ⟨k + 1, by go_num, by omega, by rw [HF.out, HLEN.out, hA, hV]; go_num, by rw [HF.out, ← HTL.out]; exact HO4.out, HT4.out⟩
              case measure => simp [intOf]; omega
          | true =>
            cases hV : valP i.op with
            | false =>
              go_wp2
              go_roundw
              case rel => exact ⟨k + 1, by go_num, by omega, by rw [HF.out, HLEN.out, hA, hV]; go_num, by rw [HF.out, ← HTL.out]; exact HO4.out, HT4.out⟩
              case measure => simp [intOf]; omega
            | true =>
              go_wp2
              go_roundw
              case rel => exact ⟨k + 1, by go_num, by omega, by rw [HF.out, HLEN.out, hA, hV]; go_num, by rw [HF.out, ← HTL.out]; exact HO4.out, HT4.out⟩
              case measure => simp [intOf]; omega
      · have hkN : k = 60 := by omega
        have hlk : l.take k = l := by rw [hkN, HN.out]; exact List.take_length
        have hnl : ¬ (k : Int) < 60 := by omega
        rw [hlk] at hrow ⊢
        have HLR : Hid (∀ i ∈ l.filter rightI, rightI i = true) := fun i hi => (List.mem_filter.1 hi).2
        have HLW : Hid (∀ i ∈ l.filter rightI, i.Wf) := fun i hi => HW.out i (List.mem_filter.1 hi).1
        have hfl : (l.filter rightI).length ≤ 60 := Nat.le_trans (List.length_filter_le _ _) (by rw [← HN.out]; exact hN60)
        generalize l.filter rightI = L at *
        have hbl := Nat.le_trans (encL_len L) (show 10 * L.length ≤ 600 by omega)
        obtain ⟨av, cv, rfl⟩ := owns_slice hrow
        have hen : HidC _ _ _ _ _ := ⟨encode_any (srow_of (cells := InsD.cells) (n := 3) (fun _ => rfl) hrow) (by omega) HLW.out⟩
        generalize hTL : L.length = TL at hen hfl ⊢
        have HTL : Hid _ := hTL
        clear hrow hT hlk hTL
        go_wp2_with fail
        refine hen.out.mono ?_
        clear hen
        rintro e w2 (⟨hal, v2, rfl, hb2, t2⟩ | ⟨hal, _⟩)
        · have hcap : ∃ a3 c3, v2 = .slice a3 (encL L).length c3 ∧ (encL L).length ≤ c3 ∧ c3 ≤ 9223372036854775807 := by
            rcases hb2.2 with ⟨e5, h5⟩ | ⟨g5, cap5, cur5, e5, hb5, _, hn5, hm5, _⟩
            · exact ⟨none, 0, by rw [e5, h5], by omega, by omega⟩
            · exact ⟨_, cap5, e5, hn5, by unfold maxLen at hm5; omega⟩
          obtain ⟨a3, c3, rfl, hc3, hm3⟩ := hcap
          have HD : HidC _ _ _ _ _ := ⟨decode_any (l := L) (srow_of (cells := ucell) (n := 1) (fun _ => rfl) (by rw [flat_ucell]; exact hb2)) hc3 hm3 (by rw [HTL.out]; omega) HLW.out HLR.out⟩
          have HT2 : Hid _ := HT.out.trans t2 (by simp)
          generalize (encL L).length = EL at HD hbl ⊢
          clear hb2 t2 hal hc3 hm3
          go_wp2_with fail
          refine HD.out.mono ?_
          clear HD
          rintro e w3 ⟨v3, rfl, ho3, t3⟩
          obtain ⟨a4, c4, rfl⟩ := owns_slice ho3
          have HT3 : Hid _ := HT2.out.trans t3 (by simp)
          have hwo : HidC _ _ _ _ _ := ⟨word_halt (HWD.out.touch HT3.out)⟩
          rw [HTL.out]
          clear ho3 t3
          go_wp2_with fail
          refine hwo.out.mono ?_
          clear hwo
          rintro e w4 ⟨rfl, rfl⟩
          go_wp2
          go_ret
          exact ⟨rfl, HT3.out⟩
        · exact absurd (List.all_eq_true.2 HLR.out) (by rw [hal]; simp)
  · have hN6 : N = l0.length := by rw [hN, hle, List.length_take]; omega
    have h61 : ¬ (60 : Int) < l0.length := by omega
    rw [← hN] at hN60
    rw [← hN6] at h61 ⊢
    clear hr hwf hl hle hN hwd hN6
    go_enter Tryd.func3, Tryd.ntmps3
    go_wp2_with fail
    go_loopw [3, 4, 5] (fun vn v i wr => ∃ k : Nat, i = .int .i64 k ∧ k ≤ N ∧ vn = .int .i64 ((encL ((l.take k).filter rightI)).length : Int) ∧ insOwn wr w.heap.size v ((l.take k).filter rightI) ∧ Touch w wr []) (fun _ _ i _ => N - (intOf i).toNat)
    case atStart => exact ⟨0, rfl, Nat.zero_le _, rfl, World.ownsRow_nil _ _ _ _, Touch.refl _ _⟩
    case round =>
      obtain ⟨k, rfl, hk, rfl, hrow, hT⟩ := hrel
      have HT : Hid _ := hT
      by_cases hlt : k < N
      · have h1 : (k : Int) < N := by omega
        have h0 : (0 : Int) ≤ k := by omega
        have hkl : k < l.length := by rw [← HN.out]; exact hlt
        obtain ⟨g, off, eao, d0, d1, d2⟩ := ins_at HR.out hT (by simp) k hkl
        first | subst eao | (simp only [Option.some.injEq, Addr.mk.injEq] at eao; obtain ⟨rfl, rfl, _⟩ := eao)
        have HAT : Hid (∀ W, Touch w W [] → W.cell? ⟨g, off + k * 3, none⟩ = some (.int .u8 l[k].op)) := fun W T => by
          obtain ⟨g', off', eg, f0, _, _⟩ := ins_at HR.out T (by simp) k hkl
          simp only [Option.some.injEq, Addr.mk.injEq] at eg
          obtain ⟨rfl, rfl, _⟩ := eg
          exact f0
        have HSN : Hid _ := encL_filter_snoc hkl
        have hfl : ((l.take k).filter rightI).length ≤ 60 := Nat.le_trans (List.length_filter_le _ _) (by rw [List.length_take]; omega)
        have hbl := Nat.le_trans (encL_len ((l.take k).filter rightI)) (show 10 * ((l.take k).filter rightI).length ≤ 600 by omega)
        generalize l[k] = i at *
        have hrt : HidC _ _ _ _ _ := ⟨cright_any i wr⟩
        have hgw : g < wr.heap.size := World.block_lt_of_cell? wr ⟨g, off + k * 3, none⟩ d0
        have HCE : Hid (∀ W, Touch wr W [] → W.cell? ⟨g, off + k * 3, none⟩ = some (.int .u8 i.op) ∧ W.cell? ⟨g, off + k * 3 + 1, none⟩ = some (.int .i64 i.arg) ∧ W.cell? ⟨g, off + k * 3 + 2, none⟩ = some (.int .u64 i.val)) := fun W T => ⟨(T.cell (p := ⟨g, off + k * 3, none⟩) hgw (by simp)).trans d0, (T.cell (p := ⟨g, off + k * 3 + 1, none⟩) hgw (by simp)).trans d1, (T.cell (p := ⟨g, off + k * 3 + 2, none⟩) hgw (by simp)).trans d2⟩
        have HU : Hid (∀ W, HidC _ _ _ W _) := fun W => ⟨uses_any i.op W⟩
        have hel : encL ((l.take k).filter rightI ++ [i]) = encL ((l.take k).filter rightI) ++ encI i := by unfold encL; rw [List.flatMap_append]; simp
        have hwid := encI_width i
        have HROW : Hid _ := hrow
        simp only [InsD.v] at hrt
        clear hT
        go_wp2_with fail
        refine hrt.out.mono ?_
        rintro e w2 ⟨rfl, t2⟩
        clear hrt
        have HT2 : Hid _ := HT.out.trans t2 (by simp)
        cases hri : rightI i with
        | false =>
          have HF : Hid ((l.take (k + 1)).filter rightI = (l.take k).filter rightI) := by show _ = _; rw [HSN.out, if_neg (by rw [hri]; simp)]
          have HR2 : Hid (insOwn w2 w.heap.size _ _) := ownsRow_touch HROW.out t2 (by simp)
          obtain ⟨av, cv, rfl⟩ := owns_slice hrow
          clear hri t2 hrow
          go_wp2
          go_roundw
          case rel => exact ⟨k + 1, by go_num, by omega, by rw [HF.out], by rw [HF.out]; exact HR2.out, HT2.out⟩
          case measure => simp [intOf]; omega
        | true =>
          have HF : Hid ((l.take (k + 1)).filter rightI = (l.take k).filter rightI ++ [i]) := by show _ = _; rw [HSN.out, if_pos hri]
          have hr2 : insOwn w2 w.heap.size _ _ := ownsRow_touch HROW.out t2 (by simp)
          obtain ⟨a4, c4, w4, hr4, ho4, t4⟩ := ins_push hr2 (by omega) HT2.out.size i 22
          have HO4 : Hid _ := ho4
          obtain ⟨e0, e1, e2⟩ := HCE.out w2 t2
          have hgl := World.block_lt_of_cell? w2 _ e0
          have hT4 : Touch w w4 [] := HT2.out.trans t4 (fun q hq => .inr (by
            rcases hr2.2 with ⟨e5, _⟩ | ⟨g5, cap5, cur5, e5, hb5, _⟩
            · rw [e5] at hq; simp [Value.ownBlock] at hq
            · rw [e5] at hq; simp [Value.ownBlock] at hq; omega))
          have HT4 : Hid _ := hT4
          have f0 := HAT.out w4 hT4
          obtain ⟨av, cv, rfl⟩ := owns_slice hr2
          have hu : HidC _ _ _ _ _ := HU.out w4
          have hw0 : (widthP i.op : Int) = 1 + (if argP i.op then 1 else 0) + (if valP i.op then 8 else 0) := by unfold widthP; cases argP i.op <;> cases valP i.op <;> rfl
          have HLEN : Hid (((encL ((l.take k).filter rightI ++ [i])).length : Int) = (encL ((l.take k).filter rightI)).length + (1 + (if argP i.op then 1 else 0) + (if valP i.op then 8 else 0))) := by
            show _ = _
            rw [← hw0, hel, List.length_append, ← hwid]; omega
          generalize hTL : ((l.take k).filter rightI).length = TL at hr4 hfl ⊢
          have HTL : Hid _ := hTL
          generalize hEL : (encL ((l.take k).filter rightI)).length = EL at hbl HLEN ⊢
          clear hr2 hrow hT4 ho4 t4 t2 hTL hEL hel hwid hw0 hri
          go_wp2_with (at_builtin; refine Lib.wpList_append_run _ rfl _ _ _ _ rfl _ _ rfl rfl _ _ hr4 ?_)
          clear hr4 e0 e1 e2 d0 d1 d2
          go_wp2_with fail
          refine hu.out.mono ?_
          rintro e w5 ⟨rfl, rfl⟩
          clear hu
          cases hA : argP i.op with
          | false =>
            cases hV : valP i.op with
            | false =>
              go_wp2
              go_roundw
              case rel => exact ⟨k + 1, by go_num, by omega, by rw [HF.out, HLEN.out, hA, hV]; go_num, by rw [HF.out, ← HTL.out]; exact HO4.out, HT4.out⟩
              case measure => simp [intOf]; omega
            | true =>
              go_wp2
              go_roundw
              case rel => exact ⟨k + 1, by go_num, by omega, by rw [HF.out, HLEN.out, hA, hV]; go_num, by rw [HF.out, ← HTL.out]; exact HO4.out, HT4.out⟩
              case measure => simp [intOf]; omega
          | true =>
            cases hV : valP i.op with
            | false =>
              go_wp2
              go_roundw
              case rel => exact ⟨k + 1, by go_num, by omega, by rw [HF.out, HLEN.out, hA, hV]; go_num, by rw [HF.out, ← HTL.out]; exact HO4.out, HT4.out⟩
              case measure => simp [intOf]; omega
            | true =>
              go_wp2
              go_roundw
              case rel => exact ⟨k + 1, by go_num, by omega, by rw [HF.out, HLEN.out, hA, hV]; go_num, by rw [HF.out, ← HTL.out]; exact HO4.out, HT4.out⟩
              case measure => simp [intOf]; omega
      · have hkN : k = N := by omega
        have hlk : l.take k = l := by rw [hkN, HN.out]; exact List.take_length
        have hnl : ¬ (k : Int) < N := by omega
        rw [hlk] at hrow ⊢
        have HLR : Hid (∀ i ∈ l.filter rightI, rightI i = true) := fun i hi => (List.mem_filter.1 hi).2
        have HLW : Hid (∀ i ∈ l.filter rightI, i.Wf) := fun i hi => HW.out i (List.mem_filter.1 hi).1
        have hfl : (l.filter rightI).length ≤ 60 := Nat.le_trans (List.length_filter_le _ _) (by rw [← HN.out]; exact hN60)
        generalize l.filter rightI = L at *
        have hbl := Nat.le_trans (encL_len L) (show 10 * L.length ≤ 600 by omega)
        obtain ⟨av, cv, rfl⟩ := owns_slice hrow
        have hen : HidC _ _ _ _ _ := ⟨encode_any (srow_of (cells := InsD.cells) (n := 3) (fun _ => rfl) hrow) (by omega) HLW.out⟩
        generalize hTL : L.length = TL at hen hfl ⊢
        have HTL : Hid _ := hTL
        clear hrow hT hlk hTL
        go_wp2_with fail
        refine hen.out.mono ?_
        clear hen
        rintro e w2 (⟨hal, v2, rfl, hb2, t2⟩ | ⟨hal, _⟩)
        · have hcap : ∃ a3 c3, v2 = .slice a3 (encL L).length c3 ∧ (encL L).length ≤ c3 ∧ c3 ≤ 9223372036854775807 := by
            rcases hb2.2 with ⟨e5, h5⟩ | ⟨g5, cap5, cur5, e5, hb5, _, hn5, hm5, _⟩
            · exact ⟨none, 0, by rw [e5, h5], by omega, by omega⟩
            · exact ⟨_, cap5, e5, hn5, by unfold maxLen at hm5; omega⟩
          obtain ⟨a3, c3, rfl, hc3, hm3⟩ := hcap
          have HD : HidC _ _ _ _ _ := ⟨decode_any (l := L) (srow_of (cells := ucell) (n := 1) (fun _ => rfl) (by rw [flat_ucell]; exact hb2)) hc3 hm3 (by rw [HTL.out]; omega) HLW.out HLR.out⟩
          have HT2 : Hid _ := HT.out.trans t2 (by simp)
          generalize (encL L).length = EL at HD hbl ⊢
          clear hb2 t2 hal hc3 hm3
          go_wp2_with fail
          refine HD.out.mono ?_
          clear HD
          rintro e w3 ⟨v3, rfl, ho3, t3⟩
          obtain ⟨a4, c4, rfl⟩ := owns_slice ho3
          have HT3 : Hid _ := HT2.out.trans t3 (by simp)
          have hwo : HidC _ _ _ _ _ := ⟨word_halt (HWD.out.touch HT3.out)⟩
          rw [HTL.out]
          clear ho3 t3
          go_wp2_with fail
          refine hwo.out.mono ?_
          clear hwo
          rintro e w4 ⟨rfl, rfl⟩
          go_wp2
          go_ret
          exact ⟨rfl, HT3.out⟩
        · exact absurd (List.all_eq_true.2 HLR.out) (by rw [hal]; simp)

end Go.Proofs.YtakmfemhdikkcabDoor
