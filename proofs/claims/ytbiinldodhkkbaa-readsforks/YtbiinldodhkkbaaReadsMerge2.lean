/-
  The document's Merge BY ITS CONTRACT, AND ReadsMerges, WALKED.
-/
import Derived.Test.YtbiinldodhkkbaaReadsMerge
namespace Go.Proofs.Ytbiinldodhkkbaa
set_option linter.unusedVariables false
set_option linter.unusedSimpArgs false
open Go.RowKit Go.Maps

set_option maxRecDepth 100000 in
set_option maxHeartbeats 3200000 in
theorem rmerge_any {B B' : Nat} {w : World} {b : Nat} {vl : Value} {L : List EntD} {b' : Nat} {vk : Value} {K : List EntD} (h : RfSet B w b vl L) (hB : B ≤ w.heap.size) (h' : RfSet B' w b' vk K) (hne : b ≠ b') :
    Calls Try.prog 12 #[.pointer (some ⟨b, 0, none⟩), .pointer (some ⟨b', 0, none⟩)] w (RAddPost B w b vl (mergeE L K)) := by
  obtain ⟨al, cl, rfl⟩ := RdSet.owns_form h.own
  obtain ⟨ak, ck, rfl⟩ := RdSet.owns_form h'.own
  obtain ⟨N, hN⟩ : ∃ N, N = K.length := ⟨_, rfl⟩
  obtain ⟨M, hM⟩ : ∃ M, M = L.length := ⟨_, rfl⟩
  have HN : Hid (N = K.length) := hN
  have HM : Hid (M = L.length) := hM
  have h8 := h.sl.len
  have k8 := h'.sl.len
  rw [← hN] at k8
  rw [← hM] at h8
  have HL : Hid _ := h
  have HK : Hid _ := h'
  obtain ⟨R, hR⟩ : ∃ R, R = mergeE L K := ⟨_, rfl⟩
  rw [← hR]
  have HR : Hid _ := hR
  clear h h' hN hM hR
  go_enter Try.func12, Try.ntmps12
  go_wp2_with fail
  go_loopw [5, 6] (fun v i wr => ∃ k : Nat, i = .int .i64 k ∧ k ≤ N ∧ v = .int .i64 ((lackE L (K.take k)).length : Int) ∧ (lackE L (K.take k)).length ≤ k ∧ Touch w wr []) (fun _ i _ => N - (intOf i).toNat)
  case atStart => exact ⟨0, rfl, Nat.zero_le _, rfl, by simp [lackE], Touch.refl _ _⟩
  case round =>
    obtain ⟨k, rfl, hk, rfl, hlk, hT⟩ := hrel
    have HT : Hid _ := hT
    have hSK := HK.out.keep hT (by simp)
    obtain ⟨c0, f0⟩ := hSK.cells
    rw [← HN.out] at c0
    by_cases hlt : k < N
    · have hlt' : (k : Int) < N := by omega
      have hkl : k < K.length := by rw [← HN.out]; exact hlt
      obtain ⟨g, off, rfl, hg, m0, m1, m2⟩ := EntRow.three (EntRow.of_owns hSK.own) k hkl
      have hcnt := lack_count (L := L) hkl
      have hgt := rget_any (HL.out.keep hT (by simp)) K[k].tvar
      obtain ⟨z, hz⟩ : ∃ z, z = (getT L K[k].tvar).getD ⟨0, 0, 0⟩ := ⟨_, rfl⟩
      rw [show entO (getT L K[k].tvar) = .agg #[.int .i64 z.tvar, .int .u64 z.val, .int .u64 z.ver] by rw [hz]; rfl] at hgt
      clear hz
      obtain ⟨e, he⟩ : ∃ e, e = K[k] := ⟨_, rfl⟩
      rw [← he] at m0 m1 m2 hcnt hgt
      obtain ⟨t, x, r⟩ := e
      simp only at m0 m1 m2 hcnt hgt
      clear hSK he hT
      generalize (lackE L (K.take k)).length = n at *
      cases hh : hasT L t
      · rw [hh] at hgt hcnt
        simp only [Bool.false_eq_true, if_false] at hcnt
        have HC : Hid _ := hcnt
        clear hcnt hh
        go_wp2_with fail
        refine hgt.mono ?_
        rintro e w3 ⟨rfl, t3⟩
        clear hgt c0 f0 m0 m1 m2
        have T3 := HT.out.trans t3 (by simp)
        clear t3
        go_wp2
        go_roundw
        case rel => exact ⟨k + 1, by go_num, by omega, by rw [HC.out]; go_num, by rw [HC.out]; omega, T3.alloc _⟩
        case measure => simp [intOf]; omega
      · rw [hh] at hgt hcnt
        simp only [if_true, Nat.add_zero] at hcnt
        have HC : Hid _ := hcnt
        clear hcnt hh
        go_wp2_with fail
        refine hgt.mono ?_
        rintro e w3 ⟨rfl, t3⟩
        clear hgt c0 f0 m0 m1 m2
        have T3 := HT.out.trans t3 (by simp)
        clear t3
        go_wp2
        go_roundw
        case rel => exact ⟨k + 1, by go_num, by omega, by rw [HC.out], by rw [HC.out]; omega, T3.alloc _⟩
        case measure => simp [intOf]; omega
    · obtain rfl : k = N := by omega
      have he : K.take k = K := List.take_of_length_le (by rw [← HN.out]; exact Nat.le_refl _)
      rw [he] at hlk ⊢
      have hR := HR.out
      unfold mergeE at hR
      have hSL := HL.out.keep hT (by simp)
      obtain ⟨d0, g0⟩ := hSL.cells
      rw [← HM.out] at d0 hR
      have hls := rlist_any hSK
      by_cases hbig : 8 < M + (lackE L K).length
      · rw [if_pos hbig] at hR
        have hbig' : (8 : Int) < M + (lackE L K).length := by omega
        have HRR : Hid _ := hR
        generalize (lackE L K).length = n at *
        clear hSK hSL hR he hls
        go_wp2
        go_ret
        rw [HRR.out]
        exact HL.out.stays HT.out 4
      · rw [if_neg hbig] at hR
        have hbig' : ¬ (8 : Int) < M + (lackE L K).length := by omega
        have hbig2 : ¬ 8 < L.length + (lackE L K).length := by rw [← HM.out]; exact hbig
        have HBG : Hid _ := hbig2
        have HRR : Hid _ := hR
        obtain ⟨n, hnn⟩ : ∃ n, n = (lackE L K).length := ⟨_, rfl⟩
        rw [← hnn] at hlk hbig' hbig ⊢
        have HTk : Hid _ := he
        clear hSK hSL hR he hbig2 hnn
        go_wp2_with fail
        refine hls.mono ?_
        rintro e w1 ⟨v, rfl, ho, t1⟩
        clear hls
        have T1 := HT.out.trans t1 (by simp)
        obtain ⟨av, cv, rfl⟩ := RdSet.owns_form ho
        have hgv : ∀ q, (Value.slice av K.length cv).ownBlock = some q → wr.heap.size ≤ q := fun q hq => (ho.lt q hq).1
        have hbl := lt_of_heap HL.out.st
        have hvb : ∀ q, (Value.slice av K.length cv).ownBlock = some q → q ∉ [b] := fun q hq => by have := hgv q hq; have := HT.out.size; simp; omega
        rw [← HN.out] at ho hvb ⊢
        have HO : Hid (w1.ownsRow wr.heap.size 41 3 (.slice av k cv) k (K.flatMap EntD.cells)) := ho
        have HV : Hid _ := hvb
        clear ho hgv d0 c0 f0 g0 hvb
        have hL0 : lackE L [] = [] := rfl
        go_wp2_with fail
        go_loopw [10] (fun i wx => ∃ (j : Nat) (v2 : Value), i = .int .i64 j ∧ j ≤ k ∧ RfSet B wx b v2 (L ++ lackE L (K.take j)) ∧ Touch w1 wx [b] ∧ ∀ q ∈ rffoot b v2, q ∈ rffoot b (.slice al L.length cl) ∨ w.heap.size ≤ q) (fun i _ => k - (intOf i).toNat)
        case atStart => exact ⟨0, _, rfl, Nat.zero_le _, by simpa [hL0] using HL.out.keep T1 (by simp), Touch.refl _ _, fun q hq => .inl hq⟩
        case round =>
          obtain ⟨j, v2, rfl, hj, hS, hT2, hf⟩ := hrel
          by_cases hjl : j < k
          · have hjl' : (j : Int) < k := by omega
            have hjK : j < K.length := by rw [← HN.out]; exact hjl
            have hrow := EntRow.of_owns (v := .slice av K.length cv) (l := K) (by rw [← HN.out]; exact ownsRow_touch HO.out hT2 HV.out)
            obtain ⟨g, off, rfl, hg, m0, m1, m2⟩ := EntRow.three hrow j hjK
            have hadd := radd_any hS (by have := (hS.foot_lt b (by simp [rffoot])); omega) K[j] (HK.out.sl.ok K[j] (List.getElem_mem hjK)).wf
            rw [add_lack HL.out.sl HK.out.sl HBG.out hjK] at hadd
            obtain ⟨e, he⟩ : ∃ e, e = K[j] := ⟨_, rfl⟩
            rw [← he] at m0 m1 m2 hadd
            obtain ⟨t, x, r⟩ := e
            simp only at m0 m1 m2
            have HS2 : Hid _ := hS
            have HT3 : Hid _ := hT2
            clear hS hrow he hT2
            go_wp2_with fail
            refine hadd.mono ?_
            rintro e w4 ⟨v3, rfl, s4, t4, f4⟩
            clear hadd m0 m1 m2
            have HS4 : Hid _ := s4
            have HT4 : Hid _ := HT3.out.trans t4 (fun x hx => .inl hx)
            have HF4 : Hid (∀ q ∈ rffoot b v3, q ∈ rffoot b (.slice al L.length cl) ∨ w.heap.size ≤ q) := fun q hq => by
              rcases f4 q hq with h1 | h1
              · exact hf q h1
              · exact .inr (Nat.le_trans T1.size (Nat.le_trans HT3.out.size h1))
            clear s4 t4 f4
            go_wp2
            go_roundw
            case rel =>
              first
                | exact ⟨j + 1, v3, by go_num, by omega, HS4.out, HT4.out, HF4.out⟩
                | ((repeat apply Exists.intro); exact ⟨⟨j + 1, v3, by go_num, by omega, HS4.out, HT4.out, HF4.out⟩, rfl⟩)
            case measure => simp [intOf]; omega
          · obtain rfl : j = k := by omega
            rw [HTk.out] at hS
            have HS4 : Hid _ := hS
            clear hS
            go_wp2
            go_ret
            rw [HRR.out]
            exact ⟨v2, rfl, HS4.out, (T1.mono (by simp)).trans hT2 (fun x hx => .inl hx), hf⟩

/-- A law's two sets more. -/
theorem EPair.other {B : Nat} {w w' : World} {b m : Nat} {vl : Value} {rb : Nat} {vr : Value} {L : List EntD} {S : List Nat} (h : EPair B w b m vl rb vr L) (t : Touch w w' S) (h1 : ∀ k ∈ rdfoot b m vl, k ∉ S) (h2 : ∀ k ∈ rffoot rb vr, k ∉ S) : EPair B w' b m vl rb vr L := ⟨h.s.keep t h1, h.r.keep t h2, h.ne⟩

set_option maxRecDepth 100000 in
set_option maxHeartbeats 3200000 in
theorem emergesS_any (S : SortOk) (ao : Option Addr) (cap : Nat) (l : List EntD) (bo : Option Addr) (cap2 : Nat) (l2 : List EntD) (w : World) (hr : EntRow w (.slice ao l.length cap) l) (hl : l.length ≤ maxLen) (hwf : ∀ e ∈ l, e.Wf)
    (hr2 : EntRow w (.slice bo l2.length cap2) l2) (hl2 : l2.length ≤ maxLen) (hwf2 : ∀ e ∈ l2, e.Wf) :
    Calls Try.prog 4 #[.slice ao l.length cap, .slice bo l2.length cap2] w (TrueIn w) := by
  have hp := eplay_any ao cap l w hr hl hwf
  have hp2 := fun (X : World) (tX : Touch w X []) => eplay_any bo cap2 l2 X (SRow.keep hr2 tX (by simp)) hl2 hwf2
  unfold EPlayed at hp hp2
  generalize runE [] (l.take 30) = L at *
  generalize runE [] (l2.take 30) = K at *
  clear hr hl hwf hr2 hl2 hwf2
  go_enter Try.func4, Try.ntmps4
  go_wp2_with fail
  refine hp.mono ?_
  rintro e w1 ⟨b, m, vl, rb, vr, rfl, hP, t1⟩
  clear hp
  have hp3 := hp2 w1 t1
  clear hp2
  go_wp2_with fail
  refine hp3.mono ?_
  rintro e w2 ⟨b', m', vl', rb', vr', rfl, hQ, t2⟩
  clear hp3
  have hP2 := hP.keep t2
  -- the two pairs are apart
  have hfeetP : ∀ q, (q ∈ rdfoot b m vl ∨ q ∈ rffoot rb vr) → q < w1.heap.size := fun q hq => hq.elim (fun h => (hP.s.foot_lt q h).2) (fun h => (hP.r.foot_lt q h).2)
  have hfeetQ : ∀ q, (q ∈ rdfoot b' m' vl' ∨ q ∈ rffoot rb' vr') → w1.heap.size ≤ q := fun q hq => hq.elim (fun h => (hQ.s.foot_lt q h).1) (fun h => (hQ.r.foot_lt q h).1)
  have T2 := t1.trans t2 (by simp)
  clear hP t1 t2
  go_wp2_with fail
  refine (elive_any _).mono ?_
  rintro e w3 ⟨rfl, t3⟩
  have hP3 := hP2.keep t3
  have hQ3 := hQ.keep t3
  have T3 := T2.trans t3 (by simp)
  clear hP2 hQ T2 t3
  have g1 := len_any hP3.s
  have g2 := merge_any hP3.s T3.size hQ3.s
  have g3 := fun (X : World) (hX : RfSet w.heap.size X rb vr L) (hz : w.heap.size ≤ X.heap.size) (hY : RfSet w1.heap.size X rb' vr' K) => rmerge_any hX hz hY (fun e => by
    have h1 := hfeetP rb (.inr (by simp [rffoot]))
    have h2 := hfeetQ rb' (.inr (by simp [rffoot]))
    omega)
  have hcas : ((mergeE L K).1 = 0) ∨ ((mergeE L K).1 = 4 ∧ (mergeE L K).2 = L) := by
    unfold mergeE
    split
    · exact .inr ⟨rfl, rfl⟩
    · exact .inl rfl
  obtain ⟨R, hR⟩ : ∃ R, R = mergeE L K := ⟨_, rfl⟩
  rw [← hR] at g2 g3 hcas
  clear hR
  obtain ⟨re, RL⟩ := R
  simp only at hcas
  have HCS : Hid _ := hcas
  have HP3 : Hid _ := hP3
  have HQ3 : Hid _ := hQ3
  clear hcas hP3 hQ3
  go_wp2_with fail
  refine g1.mono ?_
  rintro e w4 ⟨rfl, rfl⟩
  clear g1
  go_wp2_with fail
  refine g2.mono ?_
  rintro e w4 ⟨vl4, rfl, s4, t4, f4⟩
  clear g2
  have hR4 := HP3.out.r.keep t4 (fun q hq hq' => HP3.out.ne q hq' hq)
  have hQ4 := HQ3.out.other t4 (fun q hq hq' => by have := hfeetP q (.inl hq'); have := hfeetQ q (.inl hq); omega) (fun q hq hq' => by have := hfeetP q (.inl hq'); have := hfeetQ q (.inr hq); omega)
  have T4 : Touch w w4 [] := T3.trans t4 (fun q hq => .inr (HP3.out.s.foot_lt q hq).1)
  have g3' := g3 w4 hR4 T4.size hQ4.r
  clear g3 hR4
  go_wp2_with fail
  refine g3'.mono ?_
  rintro e w5 ⟨vr5, rfl, r5, t5, f5⟩
  clear g3'
  have hs4 := t4.size
  have hP5 : EPair w.heap.size w5 b m vl4 rb vr5 RL := by
    refine ⟨s4.keep t5 (fun q hq hq' => ?_), r5, fun q hq hq' => ?_⟩
    · have hqb : q = rb := by simpa using hq'
      subst hqb
      rcases f4 q hq with h1 | h1
      · exact HP3.out.ne q h1 (by simp [rffoot])
      · have := (HP3.out.r.foot_lt q (by simp [rffoot])).2; omega
    · rcases f5 q hq' with h1 | h1
      · rcases f4 q hq with h2 | h2
        · exact HP3.out.ne q h2 h1
        · have := (HP3.out.r.foot_lt q h1).2; omega
      · have := (s4.foot_lt q hq).2; omega
  have hrbP := hfeetP rb (.inr (by simp [rffoot]))
  have hQ5 := hQ4.other t5 (fun q hq hq' => by have := hfeetQ q (.inl hq); simp at hq'; omega) (fun q hq hq' => by have := hfeetQ q (.inr hq); simp at hq'; omega)
  have T5 : Touch w w5 [] := T4.trans t5 (fun q hq => .inr (by simp at hq; rw [hq]; exact HP3.out.r.hb))
  have HP5 : Hid _ := hP5
  have HQ5 : Hid _ := hQ5
  have g4 := esame_any S hP5
  clear s4 t4 f4 r5 t5 f5 hP5 hQ5 hQ4 hfeetP hfeetQ HP3 HQ3 T4 T3 hs4 hrbP
  go_wp2_with fail
  refine g4.mono ?_
  rintro e w6 ⟨rfl, t6⟩
  clear g4
  have g5 := esame_any S (HQ5.out.keep t6)
  go_wp2_with fail
  refine g5.mono ?_
  rintro e w7 ⟨rfl, t7⟩
  clear g5
  have t57 := t6.trans t7 (by simp)
  have T7 := T5.trans t57 (by simp)
  have hP7 := HP5.out.keep t57
  have g6 := len_any hP7.s
  have g7 := merge_none hP7.s
  clear t6 t7 t57 T5 HP5 HQ5 hP7
  rcases HCS.out with rfl | ⟨rfl, rfl⟩
  · go_wp2_with fail
    refine g7.mono ?_
    rintro e w8 ⟨rfl, rfl⟩
    go_wp2
    go_ret
    exact ⟨by simp, T7⟩
  · go_wp2_with fail
    refine g6.mono ?_
    rintro e w8 ⟨rfl, rfl⟩
    go_wp2_with fail
    refine g7.mono ?_
    rintro e w8 ⟨rfl, rfl⟩
    go_wp2
    go_ret
    exact ⟨by simp, T7⟩

end Go.Proofs.Ytbiinldodhkkbaa
