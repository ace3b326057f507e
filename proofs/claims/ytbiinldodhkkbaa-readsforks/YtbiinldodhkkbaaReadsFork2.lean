/-
  ReadsForks, WALKED.
-/
import Derived.Test.YtbiinldodhkkbaaReadsFork
namespace Go.Proofs.Ytbiinldodhkkbaa
set_option linter.unusedVariables false
set_option linter.unusedSimpArgs false
open Go.RowKit Go.Maps

set_option maxRecDepth 100000 in
set_option maxHeartbeats 3200000 in
theorem eforksS_any (S : SortOk) (ao : Option Addr) (cap : Nat) (l : List EntD) (bo : Option Addr) (cap2 : Nat) (l2 : List EntD) (w : World) (hr : EntRow w (.slice ao l.length cap) l) (hl : l.length ≤ maxLen) (hwf : ∀ e ∈ l, e.Wf)
    (hr2 : EntRow w (.slice bo l2.length cap2) l2) (hl2 : l2.length ≤ maxLen) (hwf2 : ∀ e ∈ l2, e.Wf) :
    Calls Try.prog 5 #[.slice ao l.length cap, .slice bo l2.length cap2] w (TrueIn w) := by
  have hp := eplay_any ao cap l w hr hl hwf
  unfold EPlayed at hp
  generalize runE [] (l.take 30) = L at *
  clear hr hl hwf
  unfold maxLen at hl2
  obtain ⟨N, hN⟩ : ∃ N, N = l2.length := ⟨_, rfl⟩
  rw [← hN] at hl2
  have HN : Hid (N = l2.length) := hN
  go_enter Try.func5, Try.ntmps5
  rw [← hN]
  clear hN
  go_wp2_with fail
  refine hp.mono ?_
  rintro e w1 ⟨sb, sm, sl, srb, srv, rfl, hP, t1⟩
  clear hp
  go_wp2_with fail
  refine (elive_any _).mono ?_
  rintro e w2 ⟨rfl, t2⟩
  have hP2 := hP.keep t2
  have T2 := t1.trans t2 (by simp)
  clear hP t1 t2
  have g1 := efork_any hP2.s
  go_wp2_with fail
  refine g1.mono ?_
  rintro e w3 ⟨b, m, vl0, rfl, s3, t3⟩
  clear g1
  have g2 := erfork_any (hP2.keep t3).r
  go_wp2_with fail
  refine g2.mono ?_
  rintro e w4 ⟨rb, vr0, rfl, r4, t4⟩
  clear g2
  have t24 : Touch w2 w4 [] := t3.trans t4 (by simp)
  have hF : EPair w2.heap.size w4 b m vl0 rb vr0 L := by
    refine ⟨s3.keep t4 (by simp), ⟨Nat.le_trans t3.size r4.hb, r4.st, ownsRow_lower r4.own t3.size, r4.sl⟩, fun q hq hq' => ?_⟩
    have h1 := (s3.foot_lt q hq).2
    have h2 := (r4.foot_lt q hq').1
    omega
  have HP2 : Hid _ := hP2
  have HT2 : Hid _ := T2
  have hr := SRow.keep hr2 T2 (by simp)
  have hfeet : ∀ q, (q ∈ rdfoot sb sm sl ∨ q ∈ rffoot srb srv) → q < w2.heap.size := fun q hq => hq.elim (fun h => (hP2.s.foot_lt q h).2) (fun h => (hP2.r.foot_lt q h).2)
  have HFE : Hid _ := hfeet
  clear hP2 T2 s3 r4 t3 t4 hr2 hfeet
  go_wp2_with fail
  go_loopw [10] (fun i wr => ∃ (k : Nat) (vl vr : Value), i = .int .i64 k ∧ k ≤ N ∧ k ≤ 12 ∧ EPair w2.heap.size wr b m vl rb vr (runE L (l2.take k)) ∧ Touch w2 wr []) (fun i _ => 12 - (intOf i).toNat)
  case atStart => exact ⟨0, _, _, rfl, Nat.zero_le _, by omega, hF, t24⟩
  case round =>
    obtain ⟨k, vl, vr, rfl, hk, hk60, hb, t⟩ := hrel
    by_cases hlt : k < N ∧ k < 12
    · obtain ⟨hlt, hlt6⟩ := hlt
      have hlt' : (k : Int) < N := by omega
      have hlt6' : (k : Int) < 12 := by omega
      have hkl : k < l2.length := by rw [← HN.out]; exact hlt
      obtain ⟨g, off, rfl, hg, M0, M1, M2⟩ := EntRow.three hr k hkl
      have m0 := (t.cell (p := ⟨g, off + k * 3, none⟩) hg (by simp)).trans M0
      have m1 := (t.cell (p := ⟨g, off + k * 3 + 1, none⟩) hg (by simp)).trans M1
      have m2 := (t.cell (p := ⟨g, off + k * 3 + 2, none⟩) hg (by simp)).trans M2
      have hn := runE_snoc hkl L
      have hew := hwf2 l2[k] (List.getElem_mem hkl)
      obtain ⟨o, ho⟩ : ∃ o, o = l2[k] := ⟨_, rfl⟩
      rw [← ho] at m0 m1 m2 M0 M1 M2 hn hew
      obtain ⟨a0, a1, a2⟩ := o
      simp only at m0 m1 m2 M0 M1 M2
      have HNX : Hid _ := hn
      have HT : Hid _ := t
      have HP : Hid _ := hb
      clear ho hn hb t hr hF t24
      go_wp2_with fail
      have hs := add_any (HP.out.s.keep (Touch.refl wr []).drew (by simp)) (by have := HT.out.size; simp; omega) ⟨a0, a1, a2⟩ hew
      have hrr := fun (W : World) (hW : RfSet w2.heap.size W rb vr (runE L (l2.take k))) (hz : w2.heap.size ≤ W.heap.size) => radd_any hW hz ⟨a0, a1, a2⟩ hew
      generalize addE (runE L (l2.take k)) ⟨a0, a1, a2⟩ = R at *
      have hfg : ∀ q ∈ rdfoot b m vl, q ≠ g := fun q hq => by have := (HP.out.s.foot_lt q hq).1; omega
      have hfr : ∀ q ∈ rffoot rb vr, q ≠ g := fun q hq => by have := (HP.out.r.foot_lt q hq).1; omega
      have hgw : g < wr.heap.size := Nat.lt_of_lt_of_le hg HT.out.size
      have three : ∀ {X : World} {S : List Nat}, Touch wr X S → g ∉ S → X.cell? ⟨g, off + k * 3, none⟩ = some (.int .i64 a0) ∧ X.cell? ⟨g, off + k * 3 + 1, none⟩ = some (.int .u64 a1) ∧ X.cell? ⟨g, off + k * 3 + 2, none⟩ = some (.int .u64 a2) := fun tX hS => ⟨(tX.cell (p := ⟨g, _, none⟩) hgw hS).trans m0, (tX.cell (p := ⟨g, _, none⟩) hgw hS).trans m1, (tX.cell (p := ⟨g, _, none⟩) hgw hS).trans m2⟩
      have hgS : g ∉ rdfoot b m vl := fun h => hfg g h rfl
      have hgR : g ∉ rdfoot b m vl ++ [rb] := by
        simp only [List.mem_append, List.mem_cons, List.not_mem_nil, or_false, not_or]
        exact ⟨hgS, fun h => hfr rb (by simp [rffoot]) h.symm⟩
      go_region_held3 (fun w' => w'.cell? ⟨g, off + k * 3, none⟩ = some (.int .i64 a0) ∧ w'.cell? ⟨g, off + k * 3 + 1, none⟩ = some (.int .u64 a1) ∧ w'.cell? ⟨g, off + k * 3 + 2, none⟩ = some (.int .u64 a2)) ((first | exact three (Touch.refl _ []).drew (by simp) | exact three t5 hgR | exact three t3 hgS)) ((first | (go_at_call 15; refine hs.mono ?_; rintro e w3 ⟨vl', rfl, s3, t3', f3⟩; have t3 : Touch wr w3 (rdfoot b m vl) := ((Touch.refl _ _).drew).trans t3' (fun x hx => .inl hx); have r3 := HP.out.r.keep t3 (fun q hq hq' => HP.out.ne q hq' hq)) | (go_at_call 16; refine (hrr _ r3 (Nat.le_trans (Nat.le_refl _) (Nat.le_trans HT.out.size t3.size))).mono ?_; rintro e w4 ⟨vr', rfl, r4, t4', f4⟩; have t5 : Touch wr w4 (rdfoot b m vl ++ [rb]) := (t3.mono (by intro x hx; simp [hx])).trans t4' (fun x hx => .inl (by simp at hx; simp [hx])))))
      have HP4 : Hid (EPair w2.heap.size w4 b m vl' rb vr' R.2) := by
        have hs4 := t3.size
        refine ⟨s3.keep t4' (fun q hq hq' => ?_), r4, fun q hq hq' => ?_⟩
        · have hq'' : q = rb := by simpa using hq'
          subst hq''
          rcases f3 q hq with h1 | h1
          · exact HP.out.ne q h1 (by simp [rffoot])
          · have := (HP.out.r.foot_lt q (by simp [rffoot])).2
            simp at h1
            omega
        · rcases f4 q hq' with h1 | h1
          · rcases f3 q hq with h2 | h2
            · exact HP.out.ne q h2 h1
            · have := (HP.out.r.foot_lt q h1).2
              simp at h2
              omega
          · have := (s3.foot_lt q hq).2
            omega
      have HT4 : Hid (Touch w2 w4 []) := HT.out.trans t5 (fun x hx => by
        simp only [List.mem_append, List.mem_cons, List.not_mem_nil, or_false] at hx
        rcases hx with hx | rfl
        · exact .inr (Nat.le_trans (Nat.le_refl _) ((HP.out.s.foot_lt x hx).1))
        · exact .inr (Nat.le_trans (Nat.le_refl _) ((HP.out.r.foot_lt x (by simp [rffoot])).1)))
      clear s3 r4 t3 t3' t4' t5 f3 f4 r3 hs hrr three hfg hfr m0 m1 m2 M0 M1 M2 HP HT
      go_wp2
      go_roundw
      case rel =>
        first
          | exact ⟨k + 1, vl', vr', by go_num, by omega, by omega, by rw [HNX.out]; exact HP4.out, HT4.out⟩
          | ((repeat apply Exists.intro); exact ⟨⟨k + 1, vl', vr', by go_num, by omega, by omega, by rw [HNX.out]; exact HP4.out, HT4.out⟩, rfl⟩)
      case measure => simp [intOf]; omega
    · generalize runE L (l2.take k) = K at *
      have g1 := esame_any S (HP2.out.keep t)
      have HB : Hid _ := hb
      have HT : Hid _ := t
      clear hb hr hF t24 t
      have hor : ((k : Int) < N ∧ ¬ (k : Int) < 12) ∨ ¬ (k : Int) < N := by omega
      clear hlt
      have hrb : w2.heap.size ≤ rb := HB.out.r.hb
      have hbm : w2.heap.size ≤ b ∧ w2.heap.size ≤ m := ⟨HB.out.s.hb, HB.out.s.hm⟩
      rcases hor with ⟨hlt1, hlt2⟩ | hlt1
      all_goals
        go_wp2_with fail
        refine g1.mono ?_
        rintro e w5 ⟨rfl, t5⟩
        clear g1
        have g2 := esame_any S (HB.out.keep t5)
        go_wp2_with fail
        refine g2.mono ?_
        rintro e w6 ⟨rfl, t6⟩
        clear g2
        have hB6 := (HB.out.keep t5).keep t6
        have hT6 : Touch w2 w6 [] := (HT.out.trans t5 (by simp)).trans t6 (by simp)
        have g3 := eclear_any hB6.s
        have HB6 : Hid _ := hB6
        clear hB6 t5 t6 HT HB
        go_wp2_with fail
        refine g3.mono ?_
        rintro e w7 ⟨rfl, s7, t7⟩
        clear g3
        have hr7 := HB6.out.r.keep t7 (fun q hq hq' => HB6.out.ne q (by simp at hq'; rcases hq' with rfl | rfl <;> simp [rdfoot]) hq)
        have g4 := erclear_any hr7
        have hT7 : Touch w2 w7 [] := hT6.trans t7 (fun q hq => .inr (by simp at hq; omega))
        clear hr7 hT6 t7
        go_wp2_with fail
        refine g4.mono ?_
        rintro e w8 ⟨rfl, r8, t8⟩
        clear g4
        have hT8 : Touch w2 w8 [] := hT7.trans t8 (fun q hq => .inr (by simp at hq; omega))
        have hne : ∀ q, q ∈ rdfoot b m (.slice none 0 0) → q ∉ rffoot rb (.slice none 0 0) := by
          intro q hq hq'
          have hq2 : q = rb := by simpa [rffoot, Value.ownBlock] using hq'
          have hq1 : q = b ∨ q = m := by simpa [rdfoot, Value.ownBlock] using hq
          exact HB6.out.ne q (by rcases hq1 with rfl | rfl <;> simp [rdfoot]) (by simp [rffoot, hq2])
        have hP8 : EPair w2.heap.size w8 b m (.slice none 0 0) rb (.slice none 0 0) [] := by
          refine ⟨s7.keep t8 (fun q hq hq' => hne q hq ?_), r8, hne⟩
          have hq2 : q = rb := by simpa using hq'
          simp [rffoot, hq2]
        have hQ8 := HP2.out.keep hT8
        have g5 := esame_any S hP8
        have HP8 : Hid _ := hP8
        have HQ8 : Hid _ := hQ8
        clear HB6 s7 r8 t8 hT7 hne hP8 hQ8
        go_wp2_with fail
        refine g5.mono ?_
        rintro e w9 ⟨rfl, t9⟩
        clear g5
        have hP9 := HP8.out.keep t9
        have g6 := len_any hP9.s
        have g7 := esame_any S (HQ8.out.keep t9)
        have HP9 : Hid _ := hP9
        have T9 := hT8.trans t9 (by simp)
        clear hP9 HP8 HQ8 hT8 t9
        go_wp2_with fail
        refine g6.mono ?_
        rintro e w10 ⟨rfl, rfl⟩
        clear g6
        go_wp2_with fail
        refine g7.mono ?_
        rintro e w11 ⟨rfl, t11⟩
        clear g7
        have g8 := valid_any (HP9.out.keep t11).s none 0 [] (valRow_nil _) (by decide)
        rw [brokenE_none (by simp)] at g8
        have T11 := (HT2.out.trans T9 (by simp)).trans t11 (by simp)
        clear HP9 t11 T9
        go_wp2_with fail
        refine g8.mono ?_
        rintro e w12 ⟨rfl, t12⟩
        clear g8
        go_wp2
        go_ret
        exact ⟨by simp, T11.trans t12 (by simp)⟩

end Go.Proofs.Ytbiinldodhkkbaa
