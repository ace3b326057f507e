/-
  A STRIPE HAS ONE OWNER AT MOST: the law, walked.
-/
import Derived.Test.YthkphhjhgkclfaaDoorStripesPlayAny
import Derived.Test.YthkphhjhgkclfaaDoorStripesHeld
namespace Go.Proofs.YthkphhjhgkclfaaDoor
set_option linter.unusedVariables false
set_option linter.unusedSimpArgs false
open Go.RowKit

/-- How many an owner has is how many are dropped. -/
theorem held_count (ws : List Int) (o : Int) : ∀ k, k ≤ ws.length → (heldK ws o k).length = ck ws o k := by
  intro k
  induction k with
  | zero => intro _; simp [heldK, ck]
  | succ k ih =>
    intro hk
    have ih := ih (by omega)
    have e : ws.getD k 0 = ws[k] := by rw [List.getD_eq_getElem?_getD, List.getElem?_eq_getElem (by omega)]; rfl
    rw [ck_succ ws o k (by omega)]
    by_cases hm : isMine o (ws.getD k 0) = true
    · rw [heldK_mine hm, List.length_append, ih]
      rw [e] at hm
      rw [if_pos hm]
      rfl
    · rw [heldK_not hm, ih]
      rw [e] at hm
      rw [if_neg hm]
      rfl

theorem freed_mine {now o x : Int} (h : Fine now x) (hc : now ≤ 1099511627776) : isMine o (freed o x) = false := by
  unfold freed
  split
  · unfold isMine
    rw [readP_free' (readP_v h.1.1) (by have := h.2.2; omega)]
    simp
  · exact (Bool.not_eq_true _).mp ‹_›

theorem drop_none {now : Int} {ws : List Int} (G : Good now ws) (o : Int) : ck (dropS ws o).2 o (dropS ws o).2.length = 0 := by
  have hc := G.c1
  unfold ck
  rw [List.take_length, List.length_eq_zero_iff, List.filter_eq_nil_iff]
  intro x hx
  simp only [dropS, List.mem_map] at hx
  obtain ⟨y, hy, rfl⟩ := hx
  rw [freed_mine (G.word y hy) hc]
  simp

theorem ck_pos (ws : List Int) (o : Int) (q : Nat) (hq : q < ws.length) (hm : isMine o (ws.getD q 0) = true) : 0 < ck ws o ws.length := by
  unfold ck
  rw [List.take_length]
  have e : ws.getD q 0 = ws[q] := by rw [List.getD_eq_getElem?_getD, List.getElem?_eq_getElem hq]; rfl
  rw [e] at hm
  exact List.length_pos_of_mem (List.mem_filter.2 ⟨List.getElem_mem hq, hm⟩)

theorem drop_ver {now : Int} {ws : List Int} (G : Good now ws) (o : Int) (q : Nat) (hq : q < ws.length) : verP (dropS ws o).2 q = verP ws q := by
  have hc := G.c1
  unfold dropS verP
  simp only
  rw [List.getD_eq_getElem?_getD, List.getD_eq_getElem?_getD, List.getElem?_map, List.getElem?_eq_getElem hq]
  simp only [Option.getD_some, Option.map_some]
  have hf := G.word _ (List.getElem_mem hq)
  unfold freed
  split
  · rw [readP_free' (readP_v hf.1.1) (by have := hf.2.2; omega)]
  · rfl

/-- What a lock of one owner comes to, by whose the stripe is. -/
theorem lock_cases {now : Int} {ws : List Int} (G : Good now ws) (o : Int) (ho : 0 ≤ o ∧ o < 4) (q : Nat) (hq : q < ws.length) :
    (ownerP ws q = (o, true) ∧ (lockS ws o q) = (6, ws) ∧ isMine o (ws.getD q 0) = true) ∨
    (∃ h, ownerP ws q = (h, true) ∧ ¬ h = o ∧ lockS ws o q = (7, ws) ∧ ¬ (unlockS now ws o q (verP ws q)).1 = 0 ∧ ¬ (restoreS ws o q).1 = 0 ∧ (unlockS now ws o q (verP ws q)).2 = ws) ∨
    (ownerP ws q = (0, false) ∧ (lockS ws o q).1 = 0 ∧ isMine o ((lockS ws o q).2.getD q 0) = true ∧ verP (lockS ws o q).2 q = verP ws q) := by
  have hin : inS ws q := by unfold inS; omega
  have hw : wordAt ws q = ws.getD q 0 := by unfold wordAt; rw [Int.toNat_natCast]
  obtain ⟨hn, hr, hv⟩ := G.at hin
  have hc := G.c1
  obtain ⟨_, _, h3⟩ := readP_ok hn.1 hr
  have hver : verP ws q = (readP (wordAt ws q)).2.1 := by unfold verP; rw [hw]
  have eo : ownerP ws q = if 0 ≤ (readP (wordAt ws q)).1 then ((readP (wordAt ws q)).1, true) else (0, false) := by
    unfold ownerP saysP
    rw [if_pos hin]
    simp [hr]
  by_cases h0 : 0 ≤ (readP (wordAt ws q)).1
  · rw [if_pos h0] at eo
    by_cases h1 : (readP (wordAt ws q)).1 = o
    · refine .inl ⟨by rw [eo, h1], ?_, ?_⟩
      · have e : lockP (wordAt ws q) o = (0, 6) := by unfold lockP; rw [if_neg (fun hh => hh hr), if_neg (fun hh => hh ho), if_pos h1]
        unfold lockS putS
        rw [if_pos hin, e]
        simp
      · rw [← hw]
        unfold isMine
        simp [h1, ho.1]
    · refine .inr (.inl ⟨_, eo, h1, ?_, ?_, ?_, ?_⟩)
      · have e : lockP (wordAt ws q) o = (0, 7) := by unfold lockP; rw [if_neg (fun hh => hh hr), if_neg (fun hh => hh ho), if_neg h1, if_pos h0]
        unfold lockS putS
        rw [if_pos hin, e]
        simp
      all_goals have hu : unlockP (wordAt ws q) o (verP ws q) = (0, 8) := by unfold unlockP; rw [if_neg (fun hh => hh hr), if_neg (by rw [hver]; omega), if_pos (.inl h1)]
      · unfold unlockS putS
        rw [if_pos hin, if_neg (by rw [hver]; omega), hu]
        simp
      · have e : restoreP (wordAt ws q) o = (0, 8) := by unfold restoreP; rw [if_neg (fun hh => hh hr), if_neg (fun hh => hh ho), if_pos h1]
        unfold restoreS putS
        rw [if_pos hin, e]
        simp
      · unfold unlockS putS
        rw [if_pos hin, if_neg (by rw [hver]; omega), hu]
        simp
  · rw [if_neg h0] at eo
    have hv0 := readP_v hn.1
    have hl : lockS ws o q = (0, ws.set q ((readP (wordAt ws q)).2.1 * 32 + o * 2 + 1)) := by
      have e : lockP (wordAt ws q) o = ((readP (wordAt ws q)).2.1 * 32 + o * 2 + 1, 0) := by unfold lockP; rw [if_neg (fun hh => hh hr), if_neg (fun hh => hh ho), if_neg (by omega), if_neg h0]
      unfold lockS putS
      rw [if_pos hin, e]
      simp
    refine .inr (.inr ⟨eo, by rw [hl], ?_, ?_⟩)
    · rw [hl]
      simp only
      rw [getD_set ws q q _ hq, if_pos rfl]
      unfold isMine
      rw [readP_held' ho hv0 (by omega)]
      simp [ho.1]
    · rw [hl]
      unfold verP
      simp only
      rw [getD_set ws q q _ hq, if_pos rfl, readP_held' ho hv0 (by omega), hw]

set_option maxRecDepth 100000 in
set_option maxHeartbeats 4000000 in
theorem one_any (ao : Option Addr) (cap : Nat) (l : List DeedD) (hwf : ∀ d ∈ l, 0 ≤ d.v) (o s : Int) (ho : 0 ≤ o ∧ o ≤ 255) (hs : 0 ≤ s ∧ s ≤ 255) (w : World) (S : Sh w) (hr : DeedRow w (.slice ao l.length cap) l) (hl : l.length ≤ maxLen) :
    Calls Tryd.prog 5 #[.slice ao l.length cap, .int .u8 o, .int .u8 s] w fun e w' => e = .returned (.bool true) ∧ Touch w w' [] := by
  have hp := play_any 5 (by omega) (by omega) ao cap l hwf w S hr hl
  rw [show ((5 : Int) % 8 + 1).toNat = 6 by decide] at hp
  obtain ⟨q, hq⟩ : ∃ q : Nat, (q : Int) = s % 6 := ⟨(s % 6).toNat, by omega⟩
  have hq6 : q < 6 := by omega
  obtain ⟨p, hp4⟩ : ∃ p : Int, p = o % 4 := ⟨_, rfl⟩
  have hpo : 0 ≤ p ∧ p < 4 := by omega
  have HQ : Hid ((q : Int) = s % 6) := hq
  have HS : Hid _ := S
  have hgl : 0 < w.heap.size := S.lt
  generalize l.length = N at *
  clear hr hl S hq hwf
  go_enter Tryd.func5, Tryd.ntmps5
  go_wp2_with fail
  refine hp.mono ?_
  rintro e w1 ⟨b, rb, vw, rfl, hP, t1⟩
  clear hp
  have hlen := runD_len 6 l 60
  generalize runD 6 (l.take 60) = st at hP hlen
  obtain ⟨now, ws⟩ := st
  try (simp only at hlen)
  have HP1 : Hid _ := hP
  clear hP
  go_wp2_with fail
  refine (slive_any w1 (HS.out.touch t1 (by simp))).mono ?_
  rintro e w2 ⟨rfl, t2'⟩
  have t2 : Touch w w2 [] := t1.trans t2' (by simp)
  have hT2 := (HP1.out.keep t2').t
  have hG := HP1.out.g
  have hBb := HP1.out.hb
  (try simp only at hT2 hG)
  clear HP1 t1 t2'
  have HZ : ∀ k, Calls Tryd.prog 11 #[ptr b] (w2.drewN k) fun e w' => e = .returned (.int .i64 6) ∧ w' = w2.drewN k := fun k => by
    have := size_any (hT2.touch ((Touch.refl w2 []).drewN k) (by simp))
    rw [hlen] at this
    exact this.mono fun e w' h => ⟨h.1, h.2.symm⟩
  have HT2 : Hid _ := hT2
  have HTT : Hid _ := t2
  clear hT2 t2
  go_wp2_with fail
  go_quiet ((go_at_call 11; exact Calls.quiet_of_same (HZ _)))
  clear HZ
  have hT3 := HT2.out.touch ((Touch.refl w2 []).drewN nq) (by simp)
  have t3 := HTT.out.drewN nq
  generalize w2.drewN nq = w3 at *
  have S3 := HS.out.touch t3 (by simp)
  have hve := version_any hT3 hG S3 q
  rw [says_ver (now := now) q (by omega), HQ.out] at hve
  clear HT2 HTT
  go_wp2_with fail
  refine hve.mono ?_
  rintro e w4 ⟨rfl, t4'⟩
  clear hve
  have t4 : Touch w w4 [] := t3.trans t4' (by simp)
  have hT4 := hT3.touch t4' (by simp)
  have S4 := HS.out.touch t4 (by simp)
  have how := owner_ext hT4 hG S4 q
  have hcase := lock_cases hG p hpo q (by omega)
  have hlk := fun W (hW : TObj W b now ws) (SW : Sh W) => tlock_ext hW hG SW p q
  have HL : Hid _ := hlk
  have HCS : Hid _ := hcase
  clear hT3 S3 t3 t4' hcase hlk
  rcases HCS.out with ⟨c1, c2, c3⟩ | ⟨h, c1, c2, c3, c4, c5, c6⟩ | ⟨c1, c2, c3, c4⟩
  · clear HCS
    rw [c1, HQ.out] at how
    subst hp4
    go_wp2_with fail
    refine how.mono ?_
    rintro e w5 ⟨rfl, t5'⟩
    have t5 : Touch w w5 [] := t4.trans t5' (by simp)
    have hT5 := hT4.touch t5' (by simp)
    have hl := HL.out w5 hT5 (HS.out.touch t5 (by simp))
    rw [c2, HQ.out] at hl
    clear how t5' hT4 S4 t4 HL hT5
    go_wp2_with fail
    refine hl.mono ?_
    rintro e w6 ⟨rfl, hT6, t6'⟩
    have t6 : Touch w w6 [] := t5.trans t6' (by intro x hx; simp at hx; exact .inr (by omega))
    clear hl t5 t6'
    have HPOS : Hid _ := ck_pos ws _ q (by omega) c3
    have HV : Hid _ := drop_ver hG (o % 4) q (by omega)
    have HG6 : Hid _ := hG
    clear c1 c2 c3 hG
    have hh := held_get hT6 HG6.out (HS.out.touch t6 (by simp)) (o % 4)
    have hcnt := held_count ws (o % 4) _ (Nat.le_refl _)
    have hgb : 0 ≠ b := by omega
    have hd7 := fun W (hW : TObj W b now ws) (SW : Sh W) => tdrop_ext hW HG6.out SW hgb (o % 4)
    have hck := ck_all ws (o % 4)
    have GD := HG6.out.drop (o % 4)
    have hnone := drop_none HG6.out (o % 4)
    have hcnt2 := held_count (dropS ws (o % 4)).2 (o % 4) _ (Nat.le_refl _)
    rw [hnone] at hcnt2
    have hsv := says_ver (now := now) (ws := (dropS ws (o % 4)).2) q (by simp [dropS]; omega)
    rw [HV.out] at hsv
    have HH2 : Hid (∀ W (hW : TObj W b now (dropS ws (o % 4)).2) (SW : Sh W), Calls Tryd.prog 19 #[ptr b, .int .i64 (o % 4)] W (HeldE W (heldK (dropS ws (o % 4)).2 (o % 4) (dropS ws (o % 4)).2.length))) := fun W hW SW => held_get hW GD SW (o % 4)
    have HV2 : Hid (∀ W (hW : TObj W b now (dropS ws (o % 4)).2) (SW : Sh W), Calls Tryd.prog 12 #[ptr b, .int .i64 (s % 6)] W fun e w' => e = .returned (.int .u64 (verP ws q)) ∧ Touch W w' []) := fun W hW SW => by
      have := version_any hW GD SW q
      rw [hsv, HQ.out] at this
      exact this
    have HD : Hid _ := hd7
    rw [← hck] at HD
    have hpos := HPOS.out
    generalize (dropS ws (o % 4)).2 = ws9 at *
    generalize heldK ws9 (o % 4) ws9.length = ls9 at *
    generalize heldK ws (o % 4) (ws).length = ls7 at *
    generalize ck ws (o % 4) (ws).length = c7 at *
    have hpos' : (0 : Int) < c7 := by omega
    clear hd7 hck hnone hsv
    go_wp2_with fail
    refine hh.mono ?_
    rintro e w7 ⟨v7, B7, rfl, ho7, _, t7'⟩
    obtain ⟨a7, cp7, rfl⟩ : ∃ a7 cp7, v7 = .slice a7 c7 cp7 := by
      rw [← hcnt]
      rcases ho7.2 with ⟨rfl, h0⟩ | ⟨g, cap, cur, rfl, _⟩
      · exact ⟨none, 0, by rw [h0]⟩
      · exact ⟨_, _, rfl⟩
    have t7 : Touch w w7 [] := t6.trans t7' (by simp)
    have hT7 := hT6.touch t7' (by simp)
    clear hh ho7 t7' t6 hT6
    have hd := HD.out w7 hT7 (HS.out.touch t7 (by simp))
    clear HD
    go_wp2_with fail
    refine hd.mono ?_
    rintro e w8 ⟨rfl, hT8, t8'⟩
    have t8 : Touch w w8 [] := t7.trans t8' (by intro x hx; simp at hx; exact .inr (by omega))
    clear hd t8' t7 hT7
    have hh2 := HH2.out w8 hT8 (HS.out.touch t8 (by simp))
    clear HH2
    go_wp2_with fail
    refine hh2.mono ?_
    rintro e w9 ⟨v9, B9, rfl, ho9, _, t9'⟩
    obtain ⟨a9, cp9, rfl⟩ : ∃ a9 cp9, v9 = .slice a9 0 cp9 := by
      rw [← hcnt2]
      rcases ho9.2 with ⟨rfl, h0⟩ | ⟨g, cap, cur, rfl, _⟩
      · exact ⟨none, 0, by rw [h0]⟩
      · exact ⟨_, _, rfl⟩
    have t9 : Touch w w9 [] := t8.trans t9' (by simp)
    have hT9 := hT8.touch t9' (by simp)
    clear hh2 ho9 t9' t8 hT8
    have hv9 := HV2.out w9 hT9 (HS.out.touch t9 (by simp))
    clear HV2
    go_wp2_with fail
    refine hv9.mono ?_
    rintro e w10 ⟨rfl, t10'⟩
    have t10 : Touch w w10 [] := t9.trans t10' (by simp)
    clear hv9 t10' t9 hT9
    go_wp2
    go_ret
    exact ⟨by simp, t10⟩
  · clear HCS
    rw [c1, HQ.out] at how
    subst hp4
    have c2' : (h == o % 4) = false := by simpa using c2
    have hv0 : 0 ≤ verP ws q := by
      unfold verP
      rw [List.getD_eq_getElem?_getD, List.getElem?_eq_getElem (by omega)]
      exact readP_v (hG.word _ (List.getElem_mem (by omega))).1.1
    have HU : Hid (∀ W (hW : TObj W b now ws) (SW : Sh W), Calls Tryd.prog 17 #[ptr b, .int .i64 (o % 4), .int .i64 (s % 6), .int .u64 (verP ws q)] W fun e w' => e = .returned (.int .i64 (unlockS now ws (o % 4) q (verP ws q)).1) ∧ TObj w' b now ws ∧ Touch W w' [b]) := fun W hW SW => by
      have := tunlock_ext hW hG SW (o % 4) q (verP ws q) hv0
      rw [c6] at this
      rw [← HQ.out]
      exact this
    have HRS : Hid (∀ W (hW : TObj W b now ws) (SW : Sh W), Calls Tryd.prog 18 #[ptr b, .int .i64 (o % 4), .int .i64 (s % 6)] W fun e w' => e = .returned (.int .i64 (restoreS ws (o % 4) q).1) ∧ Touch W w' [b]) := fun W hW SW => by
      have := trestore_ext hW hG SW (o % 4) q
      rw [← HQ.out]
      exact this.mono fun e w' hh => ⟨hh.1, hh.2.2⟩
    have c4' : ((unlockS now ws (o % 4) q (verP ws q)).1 == 0) = false := by simpa using c4
    have c5' : ((restoreS ws (o % 4) q).1 == 0) = false := by simpa using c5
    have c4b : ((unlockS now ws (o % 4) q (verP ws q)).1 != 0) = true := by simpa using c4
    have c5b : ((restoreS ws (o % 4) q).1 != 0) = true := by simpa using c5
    generalize (unlockS now ws (o % 4) q (verP ws q)).1 = eu at *
    generalize (restoreS ws (o % 4) q).1 = er at *
    generalize verP ws q = vq at *
    go_wp2_with fail
    refine how.mono ?_
    rintro e w5 ⟨rfl, t5'⟩
    have t5 : Touch w w5 [] := t4.trans t5' (by simp)
    have hT5 := hT4.touch t5' (by simp)
    have hl := HL.out w5 hT5 (HS.out.touch t5 (by simp))
    rw [c3, HQ.out] at hl
    clear how t5' hT4 S4 t4 HL hT5 c1 c2 c3 c4 c5 c6 c4' c5'
    go_wp2_with fail
    refine hl.mono ?_
    rintro e w6 ⟨rfl, hT6, t6'⟩
    have nb : ∀ x ∈ [b], x ∈ ([] : List Nat) ∨ w.heap.size ≤ x := by intro x hx; simp at hx; exact .inr (by omega)
    have t6 : Touch w w6 [] := t5.trans t6' nb
    clear hl t5 t6'
    have hu := HU.out w6 hT6 (HS.out.touch t6 (by simp))
    clear HU hT6
    go_wp2_with fail
    refine hu.mono ?_
    rintro e w7 ⟨rfl, hT7, t7'⟩
    have t7 : Touch w w7 [] := t6.trans t7' nb
    clear hu t6 t7'
    have hrs := HRS.out w7 hT7 (HS.out.touch t7 (by simp))
    clear HRS hT7
    go_wp2_with fail
    refine hrs.mono ?_
    rintro e w8 ⟨rfl, t8'⟩
    have t8 : Touch w w8 [] := t7.trans t8' nb
    clear hrs t7 t8'
    go_wp2
    go_ret
    exact ⟨by simp, t8⟩
  · clear HCS
    rw [c1, HQ.out] at how
    subst hp4
    go_wp2_with fail
    refine how.mono ?_
    rintro e w5 ⟨rfl, t5'⟩
    have t5 : Touch w w5 [] := t4.trans t5' (by simp)
    have hT5 := hT4.touch t5' (by simp)
    have hl := HL.out w5 hT5 (HS.out.touch t5 (by simp))
    rw [c2, HQ.out] at hl
    have hG1 := hG.lock (o % 4) q
    have hlen1 : (lockS ws (o % 4) q).2.length = 6 := by unfold lockS; split <;> simp [putS_len, hlen]
    have HPOS : Hid _ := ck_pos (lockS ws (o % 4) q).2 _ q (by omega) c3
    have hv1 := drop_ver hG1 (o % 4) q (by omega)
    rw [c4] at hv1
    have HV : Hid _ := hv1
    have HG6 : Hid _ := hG1
    rw [HQ.out] at HPOS HV HG6 hlen1
    clear c1 c2 c3 c4 hv1 hG1 how t5' hT4 S4 t4 HL hT5
    generalize (lockS ws (o % 4) (s % 6)).2 = ws1 at *
    go_wp2_with fail
    refine hl.mono ?_
    rintro e w6 ⟨rfl, hT6, t6'⟩
    have t6 : Touch w w6 [] := t5.trans t6' (by intro x hx; simp at hx; exact .inr (by omega))
    clear hl t5 t6' hG
    have hh := held_get hT6 HG6.out (HS.out.touch t6 (by simp)) (o % 4)
    have hcnt := held_count ws1 (o % 4) _ (Nat.le_refl _)
    have hgb : 0 ≠ b := by omega
    have hd7 := fun W (hW : TObj W b now ws1) (SW : Sh W) => tdrop_ext hW HG6.out SW hgb (o % 4)
    have hck := ck_all ws1 (o % 4)
    have GD := HG6.out.drop (o % 4)
    have hnone := drop_none HG6.out (o % 4)
    have hcnt2 := held_count (dropS ws1 (o % 4)).2 (o % 4) _ (Nat.le_refl _)
    rw [hnone] at hcnt2
    have hsv := says_ver (now := now) (ws := (dropS ws1 (o % 4)).2) q (by simp [dropS]; omega)
    rw [HV.out] at hsv
    have HH2 : Hid (∀ W (hW : TObj W b now (dropS ws1 (o % 4)).2) (SW : Sh W), Calls Tryd.prog 19 #[ptr b, .int .i64 (o % 4)] W (HeldE W (heldK (dropS ws1 (o % 4)).2 (o % 4) (dropS ws1 (o % 4)).2.length))) := fun W hW SW => held_get hW GD SW (o % 4)
    have HV2 : Hid (∀ W (hW : TObj W b now (dropS ws1 (o % 4)).2) (SW : Sh W), Calls Tryd.prog 12 #[ptr b, .int .i64 (s % 6)] W fun e w' => e = .returned (.int .u64 (verP ws q)) ∧ Touch W w' []) := fun W hW SW => by
      have := version_any hW GD SW q
      rw [hsv, HQ.out] at this
      exact this
    have HD : Hid _ := hd7
    rw [← hck] at HD
    have hpos := HPOS.out
    generalize (dropS ws1 (o % 4)).2 = ws9 at *
    generalize heldK ws9 (o % 4) ws9.length = ls9 at *
    generalize heldK ws1 (o % 4) (ws1).length = ls7 at *
    generalize ck ws1 (o % 4) (ws1).length = c7 at *
    have hpos' : (0 : Int) < c7 := by omega
    clear hd7 hck hnone hsv
    go_wp2_with fail
    refine hh.mono ?_
    rintro e w7 ⟨v7, B7, rfl, ho7, _, t7'⟩
    obtain ⟨a7, cp7, rfl⟩ : ∃ a7 cp7, v7 = .slice a7 c7 cp7 := by
      rw [← hcnt]
      rcases ho7.2 with ⟨rfl, h0⟩ | ⟨g, cap, cur, rfl, _⟩
      · exact ⟨none, 0, by rw [h0]⟩
      · exact ⟨_, _, rfl⟩
    have t7 : Touch w w7 [] := t6.trans t7' (by simp)
    have hT7 := hT6.touch t7' (by simp)
    clear hh ho7 t7' t6 hT6
    have hd := HD.out w7 hT7 (HS.out.touch t7 (by simp))
    clear HD
    go_wp2_with fail
    refine hd.mono ?_
    rintro e w8 ⟨rfl, hT8, t8'⟩
    have t8 : Touch w w8 [] := t7.trans t8' (by intro x hx; simp at hx; exact .inr (by omega))
    clear hd t8' t7 hT7
    have hh2 := HH2.out w8 hT8 (HS.out.touch t8 (by simp))
    clear HH2
    go_wp2_with fail
    refine hh2.mono ?_
    rintro e w9 ⟨v9, B9, rfl, ho9, _, t9'⟩
    obtain ⟨a9, cp9, rfl⟩ : ∃ a9 cp9, v9 = .slice a9 0 cp9 := by
      rw [← hcnt2]
      rcases ho9.2 with ⟨rfl, h0⟩ | ⟨g, cap, cur, rfl, _⟩
      · exact ⟨none, 0, by rw [h0]⟩
      · exact ⟨_, _, rfl⟩
    have t9 : Touch w w9 [] := t8.trans t9' (by simp)
    have hT9 := hT8.touch t9' (by simp)
    clear hh2 ho9 t9' t8 hT8
    have hv9 := HV2.out w9 hT9 (HS.out.touch t9 (by simp))
    clear HV2
    go_wp2_with fail
    refine hv9.mono ?_
    rintro e w10 ⟨rfl, t10'⟩
    have t10 : Touch w w10 [] := t9.trans t10' (by simp)
    clear hv9 t10' t9 hT9
    go_wp2
    go_ret
    exact ⟨by simp, t10⟩

end Go.Proofs.YthkphhjhgkclfaaDoor
