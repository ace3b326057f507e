/-
  OpaqueOne, THE WALK: an attempt that is alone.
-/
import Derived.Test.YtjacclbifeoclaaOpqLive
namespace Go.Proofs.Ytjacclbifeoclaa
set_option linter.unusedVariables false
set_option linter.unusedSimpArgs false
open Go.RowKit Go.Maps
attribute [local go_sem] Oper.semAt_some

/-! ### Plain data -/
theorem getF_f0 (x : Int) : getF [f0] x = none := by
  unfold getF
  simp [fget_f0]
def canP (x : Int) : Int := ((ofB x.toNat : Nat) : Int)
abbrev oneL (t v : Int) : List EvD := [⟨1, 3, 0, 0⟩, ⟨2, 3, t, v⟩]
theorem right0 : rightB 0 = true := by decide
theorem one_right (t v : Int) (ht : 0 ≤ t ∧ t < 12) (hv : rightB v = true) : rightS (oneL t v) = true := by
  have h1 : stepC (fun _ => none) ⟨1, 3, 0, 0⟩ = some (updF (fun _ => none) 3 (1, [f0])) := by
    simp [stepC, behindS, namedS, stC, right0]
  have h2 : stepC (updF (fun _ => none) 3 (1, [f0])) ⟨2, 3, t, v⟩ = some (updF (updF (fun _ => none) 3 (1, [f0])) 3 (1, [f0])) := by
    simp [stepC, behindS, namedS, stC, fsC, updF_same, noteS, hv, ht.1, ht.2]
  unfold rightS
  simp [runC, h1, h2]
theorem one_att (t v : Int) : attS (oneL t v) = [3] := by
  simp [attS, attStep]
theorem one_state (t v : Int) : stateS (oneL t v) 3 = 1 := by
  unfold stateS
  rw [one_att]
  simp [toldS, toldStep, reachS]
  try decide
theorem one_in (t v s : Int) (hs : s ≠ 1) : inS (oneL t v) s = [] := by
  unfold inS
  rw [one_att]
  have : ¬ (1 : Int) = s := fun e => hs e.symm
  simp [one_state, this]
theorem one_cut (t v : Int) : cutS 3 (oneL t v) = oneL t v := by simp [cutS]
theorem one_note (t v : Int) : noteAll [f0] (oneL t v) = [f0] := by simp [noteAll, noteS]
theorem one_note1 (t v : Int) : noteAll [f0] ((oneL t v).take 1) = [f0] := by simp [noteAll, noteS]
theorem one_rd (t v : Int) : rdP (oneL t v) 3 = [(t, v)] := by
  unfold rdP
  rw [one_cut]
  show readsS (oneL t v) (1 + 1) = _
  rw [readsS_step (by simp), readsS_step (c := oneL t v) (m := 0) (by simp)]
  rw [one_note1]
  simp [getF_f0, readsS]
theorem one_wr (t v : Int) : wrP (oneL t v) 3 = [] := by
  unfold wrP allK
  rw [one_cut, one_note]
  simp [getF_f0]
theorem one_own (t v : Int) : ownS (cutS 3 (oneL t v)) = true := by
  rw [one_cut]
  unfold ownS
  rw [List.all_eq_true]
  intro m hm
  have h2 : m < 2 := by simpa using hm
  have : m = 0 ∨ m = 1 := by omega
  rcases this with rfl | rfl
  · rfl
  · rw [ownAt_is (by simp) (by simp), one_note1, getF_f0]
theorem one_bef (t v : Int) : befS 3 3 false (oneL t v) = false := by simp [befS]
theorem one_legal (h : List Int) (hok : heapOk h = true) (t : Nat) (ht : t < h.length) (v : Int) (hv : rightB v = true) : legalP (oneL t v) h [3] [] = if sameB h[t] v = true then (0, 0, h) else (0, 9, []) := by
  have hl12 : h.length ≤ 12 := by
    unfold heapOk at hok
    simp only [Bool.and_eq_true, decide_eq_true_eq] at hok
    exact hok.2
  have hr := one_right t v ⟨by omega, by omega⟩ hv
  have hb : begE (oneL t v) h [] = 0 := by
    unfold begE
    rw [if_neg (by rw [hr, hok]; simp), if_neg (by simp [eachP])]
  have hord : ordOk (oneL t v) [3] = true := by
    unfold ordOk
    rw [one_att]
    decide
  have hgd : h.getD t 0 = h[t] := by simp [List.getD_eq_getElem?_getD, ht]
  have hfit : fitP (oneL t v) h 3 = sameB h[t] v := by
    unfold fitP
    rw [one_rd, one_wr, one_own]
    have e : (t : Int) < (h.length : Int) := by omega
    simp only [List.all_cons, List.all_nil, rdOk, e, decide_true, Bool.true_and, Bool.and_true, Int.toNat_natCast, hgd]
  have hany : ([3].any fun o => befS o 3 false (oneL t v)) = false := by simp [one_bef]
  have hput : putO (oneL t v) [] [3] h 3 = if sameB h[t] v = true then (0, [], h) else (9, [3], h) := by
    unfold putO
    rw [if_neg (by rw [hany]; simp), hfit]
    cases hs : sameB h[t] v with
    | true => simp [behP]
    | false => simp
  unfold legalP
  rw [if_neg (by rw [hb]; simp), if_neg (by rw [hord]; simp), one_in _ _ _ (by decide), one_att]
  simp only [List.append_nil]
  unfold walkO
  rw [hput]
  cases hs : sameB h[t] v with
  | true => simp [walkO]
  | false => simp
theorem ofB_ofB (n : Nat) : ofB (ofB n) = ofB n := by
  by_cases h : nanB n = true
  · have e : ofB n = 9221120237041090560 := by unfold ofB; rw [if_pos h]
    rw [e]
    unfold ofB
    split <;> rfl
  · have e : ofB n = n := by unfold ofB; rw [if_neg h]
    rw [e, e]
theorem ofB_right (n : Nat) : rightB ((ofB n : Nat) : Int) = true := by
  unfold rightB
  rw [decide_eq_true_eq, Int.toNat_natCast, ofB_ofB]
theorem ofB_wf {x : Int} (h : Wf64 x) : Wf64 ((ofB x.toNat : Nat) : Int) := by
  unfold ofB
  unfold Wf64 at *
  split
  · decide
  · omega
theorem same_right {a b : Int} (ha : rightB a = true) (hb : rightB b = true) : sameB a b = (a == b) := by
  unfold rightB at ha hb
  simp only [decide_eq_true_eq] at ha hb
  unfold sameB
  rw [ha, hb]

set_option maxRecDepth 100000 in
set_option maxHeartbeats 8000000 in
theorem oone_any (ao : Option Addr) (cap : Nat) (H : List Int) (tv v : Int) (w : World) (hr : VRow w (.slice ao H.length cap) H) (hc : H.length ≤ cap ∧ cap ≤ maxLen) (hwf : ∀ x ∈ H, Wf64 x) (htv : 0 ≤ tv ∧ tv ≤ 255) (hv : Wf64 v) :
    Calls Try.prog 7 #[.slice ao H.length cap, .int .u8 tv, .int .u64 v] w (TrueN w) := by
  obtain ⟨tv, rfl⟩ := Int.eq_ofNat_of_zero_le htv.1
  obtain ⟨i0, hi, hz0, hz1, hz2⟩ := info_partsO Try.info_valO
  by_cases h12 : 12 < H.length
  · obtain ⟨G, hG⟩ : ∃ G, G = H.take 12 := ⟨_, rfl⟩
    have hGl : G.length = 12 := by rw [hG]; simp; omega
    have HWF : Hid (∀ x ∈ G, Wf64 x) := fun x hx => hwf x (List.take_subset 12 H (hG ▸ hx))
    have HG : Hid (VRow w (.slice ao G.length cap) G) := by rw [hG]; exact SRow.first hr 12 (by omega)
    obtain ⟨N, hN⟩ : ∃ N, N = G.length := ⟨_, rfl⟩
    have HN : Hid (N = G.length) := hN
    have hN12 : N ≤ 12 := by omega
    have h12' : (12 : Int) < (H.length : Int) := by omega
    have hcap' : (12 : Int) ≤ cap := by omega
    have hN' : 12 = N := by omega
    clear hr hwf hG hN
    have HNN : Hid (12 = N) := hN'
    generalize H.length = NH at *
    clear hN' hGl hc h12
    go_enter Try.func7, Try.ntmps7
    go_wp2_with fail
    obtain rfl := HNN.out
    go_wp2_with fail
    go_loopw [7, 8] (fun hh i wr => ∃ k : Nat, i = .int .i64 k ∧ k ≤ 12 ∧ valOwn wr w.heap.size hh ((G.take k).map canP) ∧ Touch w wr []) (fun _ i _ => 12 - (intOf i).toNat)
    case atStart => exact ⟨0, rfl, Nat.zero_le _, World.ownsRow_nil _ _ _ _, Touch.refl _ _⟩
    case round =>
      obtain ⟨k, rfl, hk, hown, t⟩ := hrel
      have HT : Hid (Touch w wr []) := t
      by_cases hlt : k < 12
      · have h1 : (k : Int) < 12 := by omega
        have h0 : (0 : Int) ≤ k := by omega
        have hkl : k < G.length := by rw [← HN.out]; exact hlt
        obtain ⟨g, off, hgo, hg, d0⟩ := VRow.one (SRow.keep HG.out t (by simp)) k hkl
        subst hgo
        have hcn := rcanon_any G[k] (HWF.out _ (List.getElem_mem hkl))
        have hsn : (G.take (k + 1)).map canP = (G.take k).map canP ++ [canP G[k]] := by rw [take_snoc hkl, List.map_append]; rfl
        have hcp : canP G[k] = ((ofB G[k].toNat : Nat) : Int) := rfl
        rw [← hcp] at hcn
        have hln : ((G.take k).map canP).length ≤ 12 := by simp; omega
        generalize canP G[k] = x at *
        generalize G[k] = y at *
        generalize hS1 : (G.take (k + 1)).map canP = S1 at *
        generalize hS0 : (G.take k).map canP = S0 at *
        have TB : Touch wr (wr.alloc (.cells #[.int .u64 x] 49)) [] := (Touch.refl wr []).alloc _
        have hsz := t.size
        have hnew : VRow (wr.alloc (.cells #[.int .u64 x] 49)) (.slice (some ⟨wr.heap.size, 0, none⟩) [x].length 1) [x] := srow_new (cells := fun x : Int => [Value.int .u64 x]) (fun _ => rfl) wr [x] 49 1
        obtain ⟨v', w3, hrun, h2, h3, h4⟩ := run_app (P := Try.prog) (cells := fun x : Int => [Value.int .u64 x]) 23 23 49 i0 _ 1 8 Try.underlying23 hi hz0 hz1 hz2 rfl (by decide) (fun _ => rfl) (by simp [Value.oneCell']) (ownsRow_touch hown TB (by simp)) hnew (by simp; omega) (by decide) (by simp; omega)
        have T3 : Touch w w3 [] := (t.trans TB (by simp)).grown h3 (fun g hg => .inr (hown.lt g hg).1)
        have HO3 : Hid (valOwn w3 w.heap.size v' S1) := by
          show World.ownsRow _ _ _ _ _ _ _
          rw [hsn]
          simpa using h2
        have HT3 : Hid _ := T3
        have HS1 : Hid _ := hS1
        obtain ⟨a3, c3, rfl⟩ := owns_slice HO3.out
        obtain ⟨aS, cS, hf⟩ := owns_slice hown
        rw [hf] at hrun ⊢
        clear hown t TB h2 h3 h4 T3 hsn hln hS1 hS0 hnew hf hcp hkl
        generalize S1.length = M1 at *
        generalize S0.length = M0 at *
        simp only [List.length_singleton] at hrun
        go_wp2_with fail
        refine (hcn _).mono ?_
        rintro e w2 ⟨rfl, rfl⟩
        clear hcn
        go_wp2_with (at_builtin; refine Lib.wpList_append_run _ rfl _ _ _ _ rfl _ _ rfl rfl _ _ hrun ?_)
        go_roundw
        case rel => exact ⟨k + 1, by go_num, by omega, by rw [HS1.out]; exact HO3.out, HT3.out⟩
        case measure => simp [intOf]; omega
      · obtain rfl : k = 12 := by omega
        have HC : Hid (valOwn wr w.heap.size u7 (G.map canP)) := by
          rw [HN.out, List.take_length] at hown
          exact hown
        have hCl : (G.map canP).length = 12 := by rw [List.length_map, HN.out]
        obtain ⟨aS, cS, hf⟩ := owns_slice HC.out
        rw [hCl] at hf
        subst hf
        clear hown t
        by_cases hk0 : 12 = 0
        · exact absurd hk0 (by decide)
        · have hkp : (0 : Int) < 12 := by omega
          have hkn : ¬ (12 : Int) = 0 := by omega
          have hrem : Int.tmod (tv : Int) (12 : Int) = ((tv % 12 : Nat) : Int) := by rfl
          have htl : tv % 12 < 12 := Nat.mod_lt _ (by omega)
          have hcn := rcanon_any v hv
          have hcr : rightB ((ofB v.toNat : Nat) : Int) = true := ofB_right _
          generalize tv % 12 = t at *
          have hw' : IntKind.i64.wrap (t : Int) = t := by rw [IntKind.wrap_i64]; omega
          have hHok : heapOk (G.map canP) = true := by
            unfold heapOk
            rw [hCl]
            simp only [Bool.and_eq_true, decide_eq_true_eq, List.all_eq_true]
            refine ⟨fun x hx => ?_, hN12⟩
            obtain ⟨y, _, rfl⟩ := List.mem_map.1 hx
            exact ofB_right _
          have hrC : ∀ i (hi : i < (G.map canP).length), rightB (G.map canP)[i] = true := fun i hi => by
            rw [List.getElem_map]
            exact ofB_right _
          have hvw : Wf64 ((ofB v.toNat : Nat) : Int) := ofB_wf hv
          generalize ((ofB v.toNat : Nat) : Int) = v1 at *
          generalize hCg : G.map canP = C at *
          have hle := one_legal C hHok t (by omega) v1 hcr
          rw [same_right (hrC t (by omega)) hcr] at hle
          obtain ⟨gS, rfl⟩ : ∃ g, aS = some ⟨g, 0, none⟩ := by
            rcases HC.out.2 with ⟨e, e2⟩ | ⟨g', cap', cur, e, _⟩
            · omega
            · simp at e; exact ⟨g', e.1⟩
          have dC : wr.cell? ⟨gS, t, none⟩ = some (.int .u64 (C[t]'(by omega))) := by
            have := HC.out.cells (g := gS) rfl t (.int .u64 (C[t]'(by omega))) (by rw [List.getElem?_map, List.getElem?_eq_getElem (by omega)]; rfl)
            rw [Addr.add_lit] at this
            simpa using this
          have hgS := World.block_lt_of_cell? wr _ dC
          have TE : Touch wr (wr.alloc (.cells ((oneL t v1).flatMap EvD.cells).toArray 51)) [] := (Touch.refl wr []).alloc _
          have hE : EvRow (wr.alloc (.cells ((oneL t v1).flatMap EvD.cells).toArray 51)) (.slice (some ⟨wr.heap.size, 0, none⟩) 2 2) (oneL t v1) := srow_new (cells := EvD.cells) (fun _ => rfl) wr (oneL t v1) 51 2
          have TI : Touch (wr.alloc (.cells ((oneL t v1).flatMap EvD.cells).toArray 51)) ((wr.alloc (.cells ((oneL t v1).flatMap EvD.cells).toArray 51)).alloc (.cells #[.int .i64 3] 3)) [] := (Touch.refl _ []).alloc _
          have hI : IRow ((wr.alloc (.cells ((oneL t v1).flatMap EvD.cells).toArray 51)).alloc (.cells #[.int .i64 3] 3)) (.slice (some ⟨wr.heap.size + 1, 0, none⟩) 1 1) [3] := by
            have := srow_new (cells := fun x : Int => [Value.int .i64 x]) (fun _ => rfl) (wr.alloc (.cells ((oneL t v1).flatMap EvD.cells).toArray 51)) [3] 3 1
            rw [World.size_alloc] at this
            exact this
          have nilI : ∀ W, IRow W (.slice none 0 0) [] := fun W => ⟨none, 0, rfl, fun h => absurd rfl h⟩
          have hV : VRow ((wr.alloc (.cells ((oneL t v1).flatMap EvD.cells).toArray 51)).alloc (.cells #[.int .i64 3] 3)) (.slice (some ⟨gS, 0, none⟩) 12 cS) C := SRow.keep (SRow.keep (vrow_of HC.out) TE (by simp)) TI (by simp)
          have hlg := legal_any (SRow.keep hE TI (by simp)) (by simp) (by
            intro e he
            simp at he
            rcases he with rfl | rfl
            · exact ⟨by decide, by decide, by decide, by unfold Wf64; decide⟩
            · exact ⟨by constructor <;> simp, by constructor <;> simp, by constructor <;> simp only <;> omega, hvw⟩) hV (by omega) hI (by decide) (fun ao n cap e => by simp at e; omega) (nilI _) (by decide) (fun ao n cap e => by simp at e; omega)
          rw [hle] at hlg
          generalize hx : C[t]'(by omega) = x at *
          have HTT : Hid (Touch w ((wr.alloc (.cells ((oneL t v1).flatMap EvD.cells).toArray 51)).alloc (.cells #[.int .i64 3] 3)) []) := (HT.out.trans TE (by simp)).trans TI (by simp)
          have HDC : Hid (∀ W, Touch wr W [] → W.cell? ⟨gS, t, none⟩ = some (.int .u64 x)) := fun W tt => (tt.cell (p := ⟨gS, t, none⟩) hgS (by simp)).trans dC
          have HTI : Hid (Touch wr ((wr.alloc (.cells ((oneL t v1).flatMap EvD.cells).toArray 51)).alloc (.cells #[.int .i64 3] 3)) []) := TE.trans TI (by simp)
          have q1 : (t : Int) < 12 := by omega
          have q0 : (0 : Int) ≤ t := by omega
          clear hHok hrC hle hcr hE TE TI hI nilI hV dC HC hvw hx hCl hCg
          by_cases hxv : x = v1
          · subst hxv
            simp only [beq_self_eq_true, if_true] at hlg
            go_wp2_with fail
            refine (hcn _).mono ?_
            rintro e w2 ⟨rfl, rfl⟩
            clear hcn
            go_wp2_with fail
            refine hlg.mono ?_
            rintro e w4 ⟨rfl, t4⟩
            clear hlg
            have hlv := olive_any w4
            have d4 := HDC.out w4 (HTI.out.trans t4 (by simp))
            have HT4 : Hid (Touch w w4 []) := HTT.out.trans t4 (by simp)
            have HT4' : Hid (Touch wr w4 []) := HTI.out.trans t4 (by simp)
            clear t4
            go_wp2_with fail
            refine hlv.mono ?_
            rintro e w5 ⟨rfl, t5⟩
            clear hlv d4
            have d5 := HDC.out w5 (HT4'.out.trans t5 (by simp))
            go_wp2
            go_ret
            exact ⟨rfl, HT4.out.trans t5 (by simp)⟩
          · have hb : (x == v1) = false := by simpa using hxv
            have hb' : (v1 == x) = false := by simp; exact fun e => hxv e.symm
            rw [hb] at hlg
            simp only [Bool.false_eq_true, if_false] at hlg
            clear hxv
            go_wp2_with fail
            refine (hcn _).mono ?_
            rintro e w2 ⟨rfl, rfl⟩
            clear hcn
            go_wp2_with fail
            refine hlg.mono ?_
            rintro e w4 ⟨rfl, t4⟩
            clear hlg
            have hlv := olive_any w4
            have HT4 : Hid (Touch w w4 []) := HTT.out.trans t4 (by simp)
            have HT4' : Hid (Touch wr w4 []) := HTI.out.trans t4 (by simp)
            clear t4
            go_wp2_with fail
            refine hlv.mono ?_
            rintro e w5 ⟨rfl, t5⟩
            clear hlv
            have d5 := HDC.out w5 (HT4'.out.trans t5 (by simp))
            go_wp2
            go_ret
            exact ⟨rfl, HT4.out.trans t5 (by simp)⟩
  · obtain ⟨G, hG⟩ : ∃ G, G = H := ⟨_, rfl⟩
    subst hG
    have HWF : Hid (∀ x ∈ G, Wf64 x) := hwf
    have HG : Hid (VRow w (.slice ao G.length cap) G) := hr
    obtain ⟨N, hN⟩ : ∃ N, N = G.length := ⟨_, rfl⟩
    have HN : Hid (N = G.length) := hN
    have hN12 : N ≤ 12 := by omega
    have h12' : ¬ (12 : Int) < (N : Int) := by omega
    rw [← hN]
    clear hr hwf hN hc h12
    go_enter Try.func7, Try.ntmps7
    go_wp2_with fail
    go_wp2_with fail
    go_loopw [7, 8] (fun hh i wr => ∃ k : Nat, i = .int .i64 k ∧ k ≤ N ∧ valOwn wr w.heap.size hh ((G.take k).map canP) ∧ Touch w wr []) (fun _ i _ => N - (intOf i).toNat)
    case atStart => exact ⟨0, rfl, Nat.zero_le _, World.ownsRow_nil _ _ _ _, Touch.refl _ _⟩
    case round =>
      obtain ⟨k, rfl, hk, hown, t⟩ := hrel
      have HT : Hid (Touch w wr []) := t
      by_cases hlt : k < N
      · have h1 : (k : Int) < N := by omega
        have h0 : (0 : Int) ≤ k := by omega
        have hkl : k < G.length := by rw [← HN.out]; exact hlt
        obtain ⟨g, off, hgo, hg, d0⟩ := VRow.one (SRow.keep HG.out t (by simp)) k hkl
        subst hgo
        have hcn := rcanon_any G[k] (HWF.out _ (List.getElem_mem hkl))
        have hsn : (G.take (k + 1)).map canP = (G.take k).map canP ++ [canP G[k]] := by rw [take_snoc hkl, List.map_append]; rfl
        have hcp : canP G[k] = ((ofB G[k].toNat : Nat) : Int) := rfl
        rw [← hcp] at hcn
        have hln : ((G.take k).map canP).length ≤ 12 := by simp; omega
        generalize canP G[k] = x at *
        generalize G[k] = y at *
        generalize hS1 : (G.take (k + 1)).map canP = S1 at *
        generalize hS0 : (G.take k).map canP = S0 at *
        have TB : Touch wr (wr.alloc (.cells #[.int .u64 x] 49)) [] := (Touch.refl wr []).alloc _
        have hsz := t.size
        have hnew : VRow (wr.alloc (.cells #[.int .u64 x] 49)) (.slice (some ⟨wr.heap.size, 0, none⟩) [x].length 1) [x] := srow_new (cells := fun x : Int => [Value.int .u64 x]) (fun _ => rfl) wr [x] 49 1
        obtain ⟨v', w3, hrun, h2, h3, h4⟩ := run_app (P := Try.prog) (cells := fun x : Int => [Value.int .u64 x]) 23 23 49 i0 _ 1 8 Try.underlying23 hi hz0 hz1 hz2 rfl (by decide) (fun _ => rfl) (by simp [Value.oneCell']) (ownsRow_touch hown TB (by simp)) hnew (by simp; omega) (by decide) (by simp; omega)
        have T3 : Touch w w3 [] := (t.trans TB (by simp)).grown h3 (fun g hg => .inr (hown.lt g hg).1)
        have HO3 : Hid (valOwn w3 w.heap.size v' S1) := by
          show World.ownsRow _ _ _ _ _ _ _
          rw [hsn]
          simpa using h2
        have HT3 : Hid _ := T3
        have HS1 : Hid _ := hS1
        obtain ⟨a3, c3, rfl⟩ := owns_slice HO3.out
        obtain ⟨aS, cS, hf⟩ := owns_slice hown
        rw [hf] at hrun ⊢
        clear hown t TB h2 h3 h4 T3 hsn hln hS1 hS0 hnew hf hcp hkl
        generalize S1.length = M1 at *
        generalize S0.length = M0 at *
        simp only [List.length_singleton] at hrun
        go_wp2_with fail
        refine (hcn _).mono ?_
        rintro e w2 ⟨rfl, rfl⟩
        clear hcn
        go_wp2_with (at_builtin; refine Lib.wpList_append_run _ rfl _ _ _ _ rfl _ _ rfl rfl _ _ hrun ?_)
        go_roundw
        case rel => exact ⟨k + 1, by go_num, by omega, by rw [HS1.out]; exact HO3.out, HT3.out⟩
        case measure => simp [intOf]; omega
      · obtain rfl : k = N := by omega
        have HC : Hid (valOwn wr w.heap.size u7 (G.map canP)) := by
          rw [HN.out, List.take_length] at hown
          exact hown
        have hCl : (G.map canP).length = k := by rw [List.length_map, HN.out]
        obtain ⟨aS, cS, hf⟩ := owns_slice HC.out
        rw [hCl] at hf
        subst hf
        clear hown t
        by_cases hk0 : k = 0
        · (subst hk0; have hlv := olive_any wr; clear hCl; go_wp2_with fail; refine hlv.mono ?_; rintro e w2 ⟨rfl, t2⟩; clear hlv; go_wp2; go_ret; exact ⟨rfl, HT.out.trans t2 (by simp)⟩)
        · have hkp : (0 : Int) < k := by omega
          have hkn : ¬ (k : Int) = 0 := by omega
          have hrem : Int.tmod (tv : Int) (k : Int) = ((tv % k : Nat) : Int) := by rfl
          have htl : tv % k < k := Nat.mod_lt _ (by omega)
          have hcn := rcanon_any v hv
          have hcr : rightB ((ofB v.toNat : Nat) : Int) = true := ofB_right _
          generalize tv % k = t at *
          have hw' : IntKind.i64.wrap (t : Int) = t := by rw [IntKind.wrap_i64]; omega
          have hHok : heapOk (G.map canP) = true := by
            unfold heapOk
            rw [hCl]
            simp only [Bool.and_eq_true, decide_eq_true_eq, List.all_eq_true]
            refine ⟨fun x hx => ?_, hN12⟩
            obtain ⟨y, _, rfl⟩ := List.mem_map.1 hx
            exact ofB_right _
          have hrC : ∀ i (hi : i < (G.map canP).length), rightB (G.map canP)[i] = true := fun i hi => by
            rw [List.getElem_map]
            exact ofB_right _
          have hvw : Wf64 ((ofB v.toNat : Nat) : Int) := ofB_wf hv
          generalize ((ofB v.toNat : Nat) : Int) = v1 at *
          generalize hCg : G.map canP = C at *
          have hle := one_legal C hHok t (by omega) v1 hcr
          rw [same_right (hrC t (by omega)) hcr] at hle
          obtain ⟨gS, rfl⟩ : ∃ g, aS = some ⟨g, 0, none⟩ := by
            rcases HC.out.2 with ⟨e, e2⟩ | ⟨g', cap', cur, e, _⟩
            · omega
            · simp at e; exact ⟨g', e.1⟩
          have dC : wr.cell? ⟨gS, t, none⟩ = some (.int .u64 (C[t]'(by omega))) := by
            have := HC.out.cells (g := gS) rfl t (.int .u64 (C[t]'(by omega))) (by rw [List.getElem?_map, List.getElem?_eq_getElem (by omega)]; rfl)
            rw [Addr.add_lit] at this
            simpa using this
          have hgS := World.block_lt_of_cell? wr _ dC
          have TE : Touch wr (wr.alloc (.cells ((oneL t v1).flatMap EvD.cells).toArray 51)) [] := (Touch.refl wr []).alloc _
          have hE : EvRow (wr.alloc (.cells ((oneL t v1).flatMap EvD.cells).toArray 51)) (.slice (some ⟨wr.heap.size, 0, none⟩) 2 2) (oneL t v1) := srow_new (cells := EvD.cells) (fun _ => rfl) wr (oneL t v1) 51 2
          have TI : Touch (wr.alloc (.cells ((oneL t v1).flatMap EvD.cells).toArray 51)) ((wr.alloc (.cells ((oneL t v1).flatMap EvD.cells).toArray 51)).alloc (.cells #[.int .i64 3] 3)) [] := (Touch.refl _ []).alloc _
          have hI : IRow ((wr.alloc (.cells ((oneL t v1).flatMap EvD.cells).toArray 51)).alloc (.cells #[.int .i64 3] 3)) (.slice (some ⟨wr.heap.size + 1, 0, none⟩) 1 1) [3] := by
            have := srow_new (cells := fun x : Int => [Value.int .i64 x]) (fun _ => rfl) (wr.alloc (.cells ((oneL t v1).flatMap EvD.cells).toArray 51)) [3] 3 1
            rw [World.size_alloc] at this
            exact this
          have nilI : ∀ W, IRow W (.slice none 0 0) [] := fun W => ⟨none, 0, rfl, fun h => absurd rfl h⟩
          have hV : VRow ((wr.alloc (.cells ((oneL t v1).flatMap EvD.cells).toArray 51)).alloc (.cells #[.int .i64 3] 3)) (.slice (some ⟨gS, 0, none⟩) k cS) C := SRow.keep (SRow.keep (vrow_of HC.out) TE (by simp)) TI (by simp)
          have hlg := legal_any (SRow.keep hE TI (by simp)) (by simp) (by
            intro e he
            simp at he
            rcases he with rfl | rfl
            · exact ⟨by decide, by decide, by decide, by unfold Wf64; decide⟩
            · exact ⟨by constructor <;> simp, by constructor <;> simp, by constructor <;> simp only <;> omega, hvw⟩) hV (by omega) hI (by decide) (fun ao n cap e => by simp at e; omega) (nilI _) (by decide) (fun ao n cap e => by simp at e; omega)
          rw [hle] at hlg
          generalize hx : C[t]'(by omega) = x at *
          have HTT : Hid (Touch w ((wr.alloc (.cells ((oneL t v1).flatMap EvD.cells).toArray 51)).alloc (.cells #[.int .i64 3] 3)) []) := (HT.out.trans TE (by simp)).trans TI (by simp)
          have HDC : Hid (∀ W, Touch wr W [] → W.cell? ⟨gS, t, none⟩ = some (.int .u64 x)) := fun W tt => (tt.cell (p := ⟨gS, t, none⟩) hgS (by simp)).trans dC
          have HTI : Hid (Touch wr ((wr.alloc (.cells ((oneL t v1).flatMap EvD.cells).toArray 51)).alloc (.cells #[.int .i64 3] 3)) []) := TE.trans TI (by simp)
          have q1 : (t : Int) < k := by omega
          have q0 : (0 : Int) ≤ t := by omega
          clear hHok hrC hle hcr hE TE TI hI nilI hV dC HC hvw hx hCl hCg
          by_cases hxv : x = v1
          · subst hxv
            simp only [beq_self_eq_true, if_true] at hlg
            go_wp2_with fail
            refine (hcn _).mono ?_
            rintro e w2 ⟨rfl, rfl⟩
            clear hcn
            go_wp2_with fail
            refine hlg.mono ?_
            rintro e w4 ⟨rfl, t4⟩
            clear hlg
            have hlv := olive_any w4
            have d4 := HDC.out w4 (HTI.out.trans t4 (by simp))
            have HT4 : Hid (Touch w w4 []) := HTT.out.trans t4 (by simp)
            have HT4' : Hid (Touch wr w4 []) := HTI.out.trans t4 (by simp)
            clear t4
            go_wp2_with fail
            refine hlv.mono ?_
            rintro e w5 ⟨rfl, t5⟩
            clear hlv d4
            have d5 := HDC.out w5 (HT4'.out.trans t5 (by simp))
            go_wp2
            go_ret
            exact ⟨rfl, HT4.out.trans t5 (by simp)⟩
          · have hb : (x == v1) = false := by simpa using hxv
            have hb' : (v1 == x) = false := by simp; exact fun e => hxv e.symm
            rw [hb] at hlg
            simp only [Bool.false_eq_true, if_false] at hlg
            clear hxv
            go_wp2_with fail
            refine (hcn _).mono ?_
            rintro e w2 ⟨rfl, rfl⟩
            clear hcn
            go_wp2_with fail
            refine hlg.mono ?_
            rintro e w4 ⟨rfl, t4⟩
            clear hlg
            have hlv := olive_any w4
            have HT4 : Hid (Touch w w4 []) := HTT.out.trans t4 (by simp)
            have HT4' : Hid (Touch wr w4 []) := HTI.out.trans t4 (by simp)
            clear t4
            go_wp2_with fail
            refine hlv.mono ?_
            rintro e w5 ⟨rfl, t5⟩
            clear hlv
            have d5 := HDC.out w5 (HT4'.out.trans t5 (by simp))
            go_wp2
            go_ret
            exact ⟨rfl, HT4.out.trans t5 (by simp)⟩

end Go.Proofs.Ytjacclbifeoclaa
