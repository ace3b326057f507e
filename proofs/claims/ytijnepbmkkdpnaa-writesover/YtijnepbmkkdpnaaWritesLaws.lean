/-
  THE STATEMENTS OF PACKAGE writes, WALKED: WritesPlays, WritesMerges, WritesDrops.
-/
import Derived.Test.YtijnepbmkkdpnaaWritesSame2
namespace Go.Proofs.Ytijnepbmkkdpnaa
set_option linter.unusedVariables false
set_option linter.unusedSimpArgs false
open Go.RowKit Go.Maps Go.Shelf

theorem srow_keep {α : Type} {n : Nat} {cells : α → List Value} {w w' : World} {v : Value} {l : List α} {S : List Nat} (h : SRow n cells w v l) (t : Touch w w' S) (hS : ∀ k, v.ownBlock = some k → k ∉ S) : SRow n cells w' v l := by
  obtain ⟨ao, cap, e, h1⟩ := h
  refine ⟨ao, cap, e, fun hn => ?_⟩
  obtain ⟨g, off, rfl, hlt, hc⟩ := h1 hn
  have hne : g ∉ S := hS g (by rw [e]; rfl)
  exact ⟨g, off, rfl, Nat.lt_of_lt_of_le hlt t.size, fun k hk j hj => (t.cell (p := ⟨g, _, none⟩) hlt hne).trans (hc k hk j hj)⟩

set_option maxRecDepth 100000 in
set_option maxHeartbeats 1600000 in
theorem wdrops_any (ao : Option Addr) (cap : Nat) (l : List DeedD) (bo : Option Addr) (cap2 : Nat) (m : List (Int × Int)) (w : World) (hr : DeedRow w (.slice ao l.length cap) l) (hl : l.length ≤ maxLen) (hwf : ∀ e ∈ l, e.Wf)
    (hr2 : PairRow w (.slice bo m.length cap2) m) (hl2 : m.length ≤ maxLen) (hwf2 : ∀ e ∈ m, (-9223372036854775808 ≤ e.1 ∧ e.1 ≤ 9223372036854775807) ∧ Wf64 e.2) :
    Calls Try.prog 4 #[.slice ao l.length cap, .slice bo m.length cap2] w (TrueN w) := by
  have hp := play_any ao cap l w hr hl hwf
  clear hr hl hwf
  obtain ⟨N, hN⟩ : ∃ N, N = m.length := ⟨_, rfl⟩
  have HN : Hid (N = m.length) := hN
  unfold maxLen at hl2
  rw [← hN] at hl2
  go_enter Try.func4, Try.ntmps4
  rw [← hN]
  clear hN
  go_wp2_with fail
  refine hp.mono ?_
  rintro e w1 ⟨b, ch, rb, vr, rfl, h1, t1⟩
  generalize runF [f0] (l.take 60) = Fs at *
  have H1 : Hid _ := h1
  clear hp h1
  go_wp2_with fail
  refine (live_any w1).mono ?_
  rintro e w2 ⟨rfl, t2⟩
  have hP2 := H1.out.touch t2
  have a1 := push_any hP2.p
  have t12 := t1.trans t2 (by simp)
  have H2 : Hid _ := hP2
  have hlen := hP2.p.len
  have h5 := hP2.p.le
  have hpos := hP2.p.pos
  clear H1 hP2 t1 t2
  unfold pushS at a1
  by_cases h4 : 4 ≤ Fs.length - 1
  · rw [if_pos h4] at a1
    go_wp2_with fail
    refine a1.mono ?_
    rintro e w3 ⟨ch3, rfl, p3, t3, x3⟩
    have a2 := depth_any p3
    have t13 : Touch w w3 [] := t12.trans t3 (fun x hx => .inr (H2.out.p.foot_lt x hx).1)
    have hd4 : ((Fs.length - 1 : Nat) : Int) = 4 := by omega
    simp only [hd4] at a2
    clear a1
    go_wp2_with fail
    refine a2.mono ?_
    rintro e w4 ⟨rfl, t4⟩
    go_wp2
    go_ret
    exact ⟨by simp, t13.trans t4 (by simp)⟩
  · rw [if_neg h4] at a1
    go_wp2_with fail
    refine a1.mono ?_
    rintro e w3 ⟨ch3, rfl, p3, t3, x3⟩
    have r3 := H2.out.r.keep t3 (fun x hx hp => H2.out.ne x hp hx)
    have n3 : ∀ x ∈ pfoot b ch3, x ∉ rfoot rb vr := fun x hp hr => by
      rcases x3 x hp with h | h
      · exact H2.out.ne x h hr
      · have := (H2.out.r.foot_lt x hr).2; omega
    have t13 : Touch w w3 [] := t12.trans t3 (fun x hx => .inr (H2.out.p.foot_lt x hx).1)
    simp only at p3
    have H3 : Hid _ := And.intro p3 (And.intro r3 (And.intro n3 t13))
    clear a1 p3 r3 n3 t3 x3 t13 t12
    go_wp2_with fail
    go_loopw [9] (fun i wr => ∃ (k : Nat) (ch' : List (Nat × Nat)) (f : Fr), i = .int .i64 k ∧ k ≤ N ∧ k ≤ 12 ∧ PLog w.heap.size wr b ch' (f :: Fs) ∧ RLog w.heap.size wr rb vr Fs.reverse ∧ (∀ x ∈ pfoot b ch', x ∉ rfoot rb vr) ∧ Touch w wr []) (fun i _ => 12 - (intOf i).toNat)
    case atStart =>
      obtain ⟨p3, r3, n3, t13⟩ := H3.out
      exact ⟨0, ch3, f0, rfl, Nat.zero_le _, by omega, p3, r3, n3, t13⟩
    case round =>
      obtain ⟨k, ch', f, rfl, hk, hk12, hp', hr', hne, hT⟩ := hrel
      clear H3
      by_cases hlt : k < N ∧ k < 12
      · obtain ⟨hlt, hlt12⟩ := hlt
        have hlt' : (k : Int) < N := by omega
        have hlt12' : (k : Int) < 12 := by omega
        have hkl : k < m.length := by rw [← HN.out]; exact hlt
        obtain ⟨g, off, rfl, hg, M0, M1⟩ := PairRow.two hr2 k hkl
        have m0 := (hT.cell (p := ⟨g, off + k * 2, none⟩) hg (by simp)).trans M0
        have m1 := (hT.cell (p := ⟨g, off + k * 2 + 1, none⟩) hg (by simp)).trans M1
        obtain ⟨hw1, hw2⟩ := hwf2 m[k] (List.getElem_mem hkl)
        obtain ⟨o, ho⟩ : ∃ o, o = m[k] := ⟨_, rfl⟩
        rw [← ho] at m0 m1 hw1 hw2
        obtain ⟨a0, a1⟩ := o
        simp only at m0 m1 hw1 hw2
        have hput := fun W (t : Touch wr W []) => put_any (hp'.touch t) a0 a1 hw1 hw2
        have hps : ∃ e f', putS (f :: Fs) a0 a1 = (e, f' :: Fs) := by
          unfold putS
          dsimp only
          split
          · exact ⟨_, _, rfl⟩
          · split
            · exact ⟨_, _, rfl⟩
            · split
              · exact ⟨_, _, rfl⟩
              · exact ⟨_, _, rfl⟩
        obtain ⟨ee, f', hps⟩ := hps
        rw [hps] at hput
        have HR : Hid _ := And.intro hp' (And.intro hr' (And.intro hne hT))
        clear ho M0 M1 hp' hr' hne hT hps
        go_wp2_with fail
        have hgn : g ∉ pfoot b ch' := fun hh => by have := (HR.out.1.foot_lt g hh).1; omega
        have hgw : g < wr.heap.size := World.block_lt_of_cell? wr _ m0
        have hkp : ∀ w' S, Touch wr w' S → g ∉ S → (w'.cell? ⟨g, off + k * 2, none⟩ = some (.int .i64 a0) ∧ w'.cell? ⟨g, off + k * 2 + 1, none⟩ = some (.int .u64 a1)) := fun w' S T hS => ⟨(T.cell (p := ⟨g, off + k * 2, none⟩) hgw hS).trans m0, (T.cell (p := ⟨g, off + k * 2 + 1, none⟩) hgw hS).trans m1⟩
        refine wp_region_held_drew (S := fun w' => w'.cell? ⟨g, off + k * 2, none⟩ = some (.int .i64 a0) ∧ w'.cell? ⟨g, off + k * 2 + 1, none⟩ = some (.int .u64 a1)) (by kernel_rfl) (hkp _ [] (Touch.refl _ _).drew (by simp)) (fun hHeld => ?_)
        refine wpAnyH_take (i := 0) (v := ptr b) rfl (by kernel_rfl) (by kernel_rfl) (by kernel_rfl) (fun _ _ _ h => h) (Or.inl ⟨by rfl, ?_⟩) hHeld ?_
        · intro w' hSw
          try simp only [Act.put, List.getElem_toArray, List.getElem_cons_succ, List.getElem_cons_zero, List.setIfInBounds_toArray, List.set_cons_zero, List.set_cons_succ]
          (obtain ⟨q1, q2⟩ := hSw; go_simp)
        try simp only [Act.put, List.getElem_toArray, List.getElem_cons_succ, List.getElem_cons_zero, List.setIfInBounds_toArray, List.set_cons_zero, List.set_cons_succ]
        refine wpAnyH_take (i := 1) (v := (.slice (some ⟨g, off, none⟩) N cap2)) rfl (by kernel_rfl) (by kernel_rfl) (by kernel_rfl) (fun _ _ _ h => h) (Or.inl ⟨by rfl, ?_⟩) hHeld ?_
        · intro w' hSw
          try simp only [Act.put, List.getElem_toArray, List.getElem_cons_succ, List.getElem_cons_zero, List.setIfInBounds_toArray, List.set_cons_zero, List.set_cons_succ]
          (obtain ⟨q1, q2⟩ := hSw; go_simp)
        try simp only [Act.put, List.getElem_toArray, List.getElem_cons_succ, List.getElem_cons_zero, List.setIfInBounds_toArray, List.set_cons_zero, List.set_cons_succ]
        refine wpAnyH_take (i := 2) (v := (.int .i64 (k : Int))) rfl (by kernel_rfl) (by kernel_rfl) (by kernel_rfl) (fun _ _ _ h => h) (Or.inl ⟨by rfl, ?_⟩) hHeld ?_
        · intro w' hSw
          try simp only [Act.put, List.getElem_toArray, List.getElem_cons_succ, List.getElem_cons_zero, List.setIfInBounds_toArray, List.set_cons_zero, List.set_cons_succ]
          (obtain ⟨q1, q2⟩ := hSw; go_simp)
        try simp only [Act.put, List.getElem_toArray, List.getElem_cons_succ, List.getElem_cons_zero, List.setIfInBounds_toArray, List.set_cons_zero, List.set_cons_succ]
        refine wpAnyH_take (i := 3) (v := (.pointer (some ⟨g, off + k * 2, none⟩))) rfl (by kernel_rfl) (by kernel_rfl) (by kernel_rfl) (fun _ _ _ h => h) (Or.inl ⟨by rfl, ?_⟩) hHeld ?_
        · intro w' hSw
          try simp only [Act.put, List.getElem_toArray, List.getElem_cons_succ, List.getElem_cons_zero, List.setIfInBounds_toArray, List.set_cons_zero, List.set_cons_succ]
          (obtain ⟨q1, q2⟩ := hSw; go_simp)
        try simp only [Act.put, List.getElem_toArray, List.getElem_cons_succ, List.getElem_cons_zero, List.setIfInBounds_toArray, List.set_cons_zero, List.set_cons_succ]
        refine wpAnyH_take (i := 4) (v := (.pointer (some ⟨g, off + k * 2, none⟩))) rfl (by kernel_rfl) (by kernel_rfl) (by kernel_rfl) (fun _ _ _ h => h) (Or.inl ⟨by rfl, ?_⟩) hHeld ?_
        · intro w' hSw
          try simp only [Act.put, List.getElem_toArray, List.getElem_cons_succ, List.getElem_cons_zero, List.setIfInBounds_toArray, List.set_cons_zero, List.set_cons_succ]
          (obtain ⟨q1, q2⟩ := hSw; go_simp)
        try simp only [Act.put, List.getElem_toArray, List.getElem_cons_succ, List.getElem_cons_zero, List.setIfInBounds_toArray, List.set_cons_zero, List.set_cons_succ]
        refine wpAnyH_take (i := 5) (v := (.int .i64 a0)) rfl (by kernel_rfl) (by kernel_rfl) (by kernel_rfl) (fun _ _ _ h => h) (Or.inl ⟨by rfl, ?_⟩) hHeld ?_
        · intro w' hSw
          try simp only [Act.put, List.getElem_toArray, List.getElem_cons_succ, List.getElem_cons_zero, List.setIfInBounds_toArray, List.set_cons_zero, List.set_cons_succ]
          (obtain ⟨q1, q2⟩ := hSw; go_simp)
        try simp only [Act.put, List.getElem_toArray, List.getElem_cons_succ, List.getElem_cons_zero, List.setIfInBounds_toArray, List.set_cons_zero, List.set_cons_succ]
        refine wpAnyH_take (i := 6) (v := (.slice (some ⟨g, off, none⟩) N cap2)) rfl (by kernel_rfl) (by kernel_rfl) (by kernel_rfl) (fun _ _ _ h => h) (Or.inl ⟨by rfl, ?_⟩) hHeld ?_
        · intro w' hSw
          try simp only [Act.put, List.getElem_toArray, List.getElem_cons_succ, List.getElem_cons_zero, List.setIfInBounds_toArray, List.set_cons_zero, List.set_cons_succ]
          (obtain ⟨q1, q2⟩ := hSw; go_simp)
        try simp only [Act.put, List.getElem_toArray, List.getElem_cons_succ, List.getElem_cons_zero, List.setIfInBounds_toArray, List.set_cons_zero, List.set_cons_succ]
        refine wpAnyH_take (i := 7) (v := (.int .i64 (k : Int))) rfl (by kernel_rfl) (by kernel_rfl) (by kernel_rfl) (fun _ _ _ h => h) (Or.inl ⟨by rfl, ?_⟩) hHeld ?_
        · intro w' hSw
          try simp only [Act.put, List.getElem_toArray, List.getElem_cons_succ, List.getElem_cons_zero, List.setIfInBounds_toArray, List.set_cons_zero, List.set_cons_succ]
          (obtain ⟨q1, q2⟩ := hSw; go_simp)
        try simp only [Act.put, List.getElem_toArray, List.getElem_cons_succ, List.getElem_cons_zero, List.setIfInBounds_toArray, List.set_cons_zero, List.set_cons_succ]
        refine wpAnyH_take (i := 8) (v := (.pointer (some ⟨g, off + k * 2, none⟩))) rfl (by kernel_rfl) (by kernel_rfl) (by kernel_rfl) (fun _ _ _ h => h) (Or.inl ⟨by rfl, ?_⟩) hHeld ?_
        · intro w' hSw
          try simp only [Act.put, List.getElem_toArray, List.getElem_cons_succ, List.getElem_cons_zero, List.setIfInBounds_toArray, List.set_cons_zero, List.set_cons_succ]
          (obtain ⟨q1, q2⟩ := hSw; go_simp)
        try simp only [Act.put, List.getElem_toArray, List.getElem_cons_succ, List.getElem_cons_zero, List.setIfInBounds_toArray, List.set_cons_zero, List.set_cons_succ]
        refine wpAnyH_take (i := 9) (v := (.pointer (some ⟨g, off + k * 2 + 1, none⟩))) rfl (by kernel_rfl) (by kernel_rfl) (by kernel_rfl) (fun _ _ _ h => h) (Or.inl ⟨by rfl, ?_⟩) hHeld ?_
        · intro w' hSw
          try simp only [Act.put, List.getElem_toArray, List.getElem_cons_succ, List.getElem_cons_zero, List.setIfInBounds_toArray, List.set_cons_zero, List.set_cons_succ]
          (obtain ⟨q1, q2⟩ := hSw; go_simp)
        try simp only [Act.put, List.getElem_toArray, List.getElem_cons_succ, List.getElem_cons_zero, List.setIfInBounds_toArray, List.set_cons_zero, List.set_cons_succ]
        refine wpAnyH_take (i := 10) (v := (.int .u64 a1)) rfl (by kernel_rfl) (by kernel_rfl) (by kernel_rfl) (fun _ _ _ h => h) (Or.inl ⟨by rfl, ?_⟩) hHeld ?_
        · intro w' hSw
          try simp only [Act.put, List.getElem_toArray, List.getElem_cons_succ, List.getElem_cons_zero, List.setIfInBounds_toArray, List.set_cons_zero, List.set_cons_succ]
          (obtain ⟨q1, q2⟩ := hSw; go_simp)
        try simp only [Act.put, List.getElem_toArray, List.getElem_cons_succ, List.getElem_cons_zero, List.setIfInBounds_toArray, List.set_cons_zero, List.set_cons_succ]
        clear hHeld
        refine wpAnyH_ready (rs := [11]) (by kernel_rfl) (by simp) (AllReadyH.cons rfl (fun K hK => ?_) AllReadyH.nil)
        rw [if_pos (by rfl)]
        go_simp
        refine (hput _ (Touch.refl _ _).drew).mono ?_
        rintro e w4 ⟨ch4, rfl, p4, t4d, x4⟩
        have t4 : Touch wr w4 (pfoot b ch') := ((Touch.refl wr (pfoot b ch')).drew).trans t4d (fun x hx => .inl hx)
        clear t4d hput
        go_simp
        refine hK.out _ _ (hkp _ _ t4 hgn) (fun hHeld => ?_)
        clear hK
        try simp only [Act.put, List.getElem_toArray, List.getElem_cons_succ, List.getElem_cons_zero, List.setIfInBounds_toArray, List.set_cons_zero, List.set_cons_succ]
        clear hHeld
        refine wpAnyH_done (by kernel_rfl) ?_ _
        obtain ⟨hp', hr', hne, hT⟩ := HR.out
        simp only at p4
        have H4 : Hid (PLog w.heap.size w4 b ch4 (f' :: Fs)) := p4
        have r4 : Hid (RLog w.heap.size w4 rb vr Fs.reverse) := hr'.keep t4 (fun x hx hp => hne x hp hx)
        have n4 : Hid (∀ x ∈ pfoot b ch4, x ∉ rfoot rb vr) := fun x hp hr => by
          rcases x4 x hp with h | h
          · exact hne x h hr
          · have := (hr'.foot_lt x hr).2
            have h' : wr.heap.size ≤ x := h
            omega
        have tT : Hid (Touch w w4 []) := hT.trans t4 (fun x hx => .inr (hp'.foot_lt x hx).1)
        clear p4 x4 hp' hr' hne hT hkp m0 m1 t4
        go_wp2
        go_roundw
        case rel => exact ⟨k + 1, ch4, f', by go_num, by omega, by omega, H4.out, r4.out, n4.out, tT.out⟩
        case measure => simp [intOf]; omega
      · have hdr := drop_any hp'
        unfold dropS at hdr
        have hdr2 : ∃ g2 r2, Fs = g2 :: r2 := by
          match Fs, hlen with
          | [], hlen => exact absurd hpos (by rw [hlen]; simp)
          | g2 :: r2, _ => exact ⟨g2, r2, rfl⟩
        obtain ⟨g2, r2, hFs⟩ := hdr2
        subst hFs
        dsimp only at hdr
        have HR : Hid _ := And.intro hp' (And.intro hr' (And.intro hne hT))
        clear hp' hr' hne hT
        by_cases hlt1 : (k : Int) < N
        · have hlt2 : ¬ (k : Int) < 12 := by omega
          clear hlt
          go_wp2_with fail
          refine hdr.mono ?_
          rintro e w5 ⟨ch5, rfl, p5, t5, x5⟩
          obtain ⟨hp', hr', hne, hT⟩ := HR.out
          have r5 := hr'.keep t5 (fun x hx hp => hne x hp hx)
          have hs := wsame_any (Fs := g2 :: r2) ⟨⟨_, _, p5⟩, ⟨_, _, r5⟩⟩
          have tT : Touch w w5 [] := hT.trans t5 (fun x hx => .inr (hp'.foot_lt x hx).1)
          clear hdr
          go_wp2_with fail
          refine hs.mono ?_
          rintro e w6 ⟨rfl, t6⟩
          go_wp2
          go_ret
          exact ⟨by simp, tT.trans t6 (by simp)⟩
        · clear hlt
          go_wp2_with fail
          refine hdr.mono ?_
          rintro e w5 ⟨ch5, rfl, p5, t5, x5⟩
          obtain ⟨hp', hr', hne, hT⟩ := HR.out
          have r5 := hr'.keep t5 (fun x hx hp => hne x hp hx)
          have hs := wsame_any (Fs := g2 :: r2) ⟨⟨_, _, p5⟩, ⟨_, _, r5⟩⟩
          have tT : Touch w w5 [] := hT.trans t5 (fun x hx => .inr (hp'.foot_lt x hx).1)
          clear hdr
          go_wp2_with fail
          refine hs.mono ?_
          rintro e w6 ⟨rfl, t6⟩
          go_wp2
          go_ret
          exact ⟨by simp, tT.trans t6 (by simp)⟩

end Go.Proofs.Ytijnepbmkkdpnaa
