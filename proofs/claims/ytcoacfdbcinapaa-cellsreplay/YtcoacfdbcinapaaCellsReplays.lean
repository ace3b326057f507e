/-
  The ref's Replay, both kinds of Last, and what they answer where there may not be so many cells: BY THEIR CONTRACTS.
-/
import Derived.Test.YtcoacfdbcinapaaCellsSame2
namespace Go.Proofs.Ytcoacfdbcinapaa
set_option linter.unusedVariables false
set_option linter.unusedSimpArgs false
open Go.RowKit

theorem rnew_nil (n : Int) (w : World) (h : n < 1 ∨ 32 < n) :
    Calls Try.prog 27 #[.int .i64 n] w fun e w' => e = .returned (.pointer none) ∧ w = w' := by
  rcases Int.lt_or_le n 1 with h1 | h1
  · go_enter Try.func27, Try.ntmps27
    go_wp2
    go_ret
    exact ⟨rfl, rfl⟩
  · have h2 : ¬ n < 1 := by omega
    have h3 : 32 < n := by omega
    clear h
    go_enter Try.func27, Try.ntmps27
    go_wp2
    go_ret
    exact ⟨rfl, rfl⟩

theorem replay_nil (n : Int) (ao : Option Addr) (len cap : Nat) (w : World) (h : n < 1 ∨ 32 < n) :
    Calls Try.prog 12 #[.int .i64 n, .slice ao len cap] w fun e w' => e = .returned (.tuple #[.slice none 0 0, .int .i64 2]) ∧ w = w' := by
  have hc := new_nil n w h
  clear h
  go_enter Try.func12, Try.ntmps12
  go_wp2_with fail
  refine hc.mono ?_
  rintro e w1 ⟨rfl, rfl⟩
  go_wp2
  go_ret2
  exact ⟨rfl, rfl⟩

theorem rreplay_nil (n : Int) (ao : Option Addr) (len cap : Nat) (w : World) (h : n < 1 ∨ 32 < n) :
    Calls Try.prog 13 #[.int .i64 n, .slice ao len cap] w fun e w' => e = .returned (.tuple #[.slice none 0 0, .int .i64 2]) ∧ w = w' := by
  have hc := rnew_nil n w h
  clear h
  go_enter Try.func13, Try.ntmps13
  go_wp2_with fail
  refine hc.mono ?_
  rintro e w1 ⟨rfl, rfl⟩
  go_wp2
  go_ret2
  exact ⟨rfl, rfl⟩

theorem right_nil (n : Int) (ao : Option Addr) (len cap : Nat) (w : World) (h : n < 1 ∨ 32 < n) :
    Calls Try.prog 17 #[.int .i64 n, .slice ao len cap] w fun e w' => e = .returned (.bool false) ∧ w = w' := by
  have hc := replay_nil n ao len cap w h
  clear h
  go_enter Try.func17, Try.ntmps17
  go_wp2_with fail
  refine hc.mono ?_
  rintro e w1 ⟨rfl, rfl⟩
  go_wp2
  go_ret
  exact ⟨rfl, rfl⟩

/-- Where two answers part first. -/
theorem same_false {b0 b1 b2 b3 b4 a0 a1 a2 a3 a4 : Int} {b5 a5 : Bool} (h : (⟨⟨b0, b1, b2, b3⟩, b4, b5⟩ : DoneD).same ⟨⟨a0, a1, a2, a3⟩, a4, a5⟩ = false) :
    ((b0 == a0) = false) ∨ (b0 = a0 ∧ (b1 == a1) = false) ∨ (b0 = a0 ∧ b1 = a1 ∧ (b2 == a2) = false) ∨ (b0 = a0 ∧ b1 = a1 ∧ b2 = a2 ∧ (b3 == a3) = false) ∨ (b0 = a0 ∧ b1 = a1 ∧ b2 = a2 ∧ b3 = a3 ∧ (b4 == a4) = false) ∨ (b0 = a0 ∧ b1 = a1 ∧ b2 = a2 ∧ b3 = a3 ∧ b4 = a4 ∧ (b5 == a5) = false) := by
  by_cases e0 : b0 = a0
  · by_cases e1 : b1 = a1
    · by_cases e2 : b2 = a2
      · by_cases e3 : b3 = a3
        · by_cases e4 : b4 = a4
          · simp [DoneD.same, e0, e1, e2, e3, e4] at h
            exact .inr (.inr (.inr (.inr (.inr ⟨e0, e1, e2, e3, e4, by simpa using h⟩))))
          · exact .inr (.inr (.inr (.inr (.inl ⟨e0, e1, e2, e3, by simpa using e4⟩))))
        · exact .inr (.inr (.inr (.inl ⟨e0, e1, e2, by simpa using e3⟩)))
      · exact .inr (.inr (.inl ⟨e0, e1, by simpa using e2⟩))
    · exact .inr (.inl ⟨e0, by simpa using e1⟩)
  · exact .inl (by simpa using e0)

set_option maxRecDepth 100000 in
set_option maxHeartbeats 6400000 in
theorem rreplay_ok (m : Nat) (h1 : 0 < m) (h2 : m ≤ 32) (v : Value) (l : List DoneD) (hl : l.length ≤ 900) (hwf : ∀ d ∈ l, d.op.Wf) (w : World) (hr : DoneRow w v l) :
    Calls Try.prog 13 #[.int .i64 m, v] w (ReplayPost w m l) := by
  have hnew := rnew_ok w.heap.size w m h1 h2 (Nat.le_refl _)
  obtain ⟨ao, cap, rfl, hrow⟩ := hr
  have hr : DoneRow w (.slice ao l.length cap) l := ⟨ao, cap, rfl, hrow⟩
  clear hrow
  obtain ⟨N, hN⟩ : ∃ N, N = l.length := ⟨_, rfl⟩
  rw [← hN] at hl
  go_enter Try.func13, Try.ntmps13
  rw [← hN]
  have HN : Hid _ := hN
  clear hN
  go_wp2_with fail
  refine hnew.mono ?_
  rintro e w1 ⟨b, vw0, rfl, ho0, t0, ft0⟩
  clear hnew
  go_wp2_with fail
  go_loopw [7] (fun i wr => ∃ (k : Nat) (ws : List Int) (lg : List DoneD) (vw vl : Value), i = .int .i64 k ∧ k ≤ N ∧ playLog (List.replicate m 0) [] (l.take k) = some (ws, lg) ∧ CObj 66 w.heap.size wr b vw vl ws lg ∧ ws.length = m ∧ lg.length ≤ k ∧ Touch w wr []) (fun i _ => N - (intOf i).toNat)
  case atStart => exact ⟨0, _, _, _, _, rfl, Nat.zero_le _, rfl, ho0, by simp, by simp, t0⟩
  case round =>
    obtain ⟨k, ws, lg, vw, vl, rfl, hk, hp, ho, hws, hlg, t⟩ := hrel
    by_cases hlt : k < N
    · have hlt' : (k : Int) < N := by omega
      have hk0' : (0 : Int) ≤ k := by omega
      have hkl : k < l.length := by rw [← HN.out]; exact hlt
      obtain ⟨g, off, rfl, hg, M0, M1, M2, M3, M4, M5⟩ := hr.six k hkl
      have m0 := (t.cell (p := ⟨g, off + k * 6, none⟩) hg (by simp)).trans M0
      have m1 := (t.cell (p := ⟨g, off + k * 6 + 1, none⟩) hg (by simp)).trans M1
      have m2 := (t.cell (p := ⟨g, off + k * 6 + 2, none⟩) hg (by simp)).trans M2
      have m3 := (t.cell (p := ⟨g, off + k * 6 + 3, none⟩) hg (by simp)).trans M3
      have hn := play_next hkl hp
      have hdw := hwf l[k] (List.getElem_mem hkl)
      obtain ⟨d, hd⟩ : ∃ d, d = l[k] := ⟨_, rfl⟩
      rw [← hd] at m0 m1 m2 m3 M0 M1 M2 M3 M4 M5 hn hdw
      obtain ⟨⟨a0, a1, a2, a3⟩, a4, a5⟩ := d
      simp only at m0 m1 m2 m3 M0 M1 M2 M3 M4 M5
      have hstep := rdo_any ho t.size ⟨a0, a1, a2, a3⟩ hdw (by omega) (by omega)
      obtain ⟨⟨d', e', ws', lg'⟩, hr1⟩ : ∃ r, r = doStep ws lg ⟨a0, a1, a2, a3⟩ := ⟨_, rfl⟩
      have hwl := doStep_length ws lg ⟨a0, a1, a2, a3⟩
      have hll := doStep_log_length ws lg ⟨a0, a1, a2, a3⟩
      rw [← hr1] at hn hstep hwl hll
      simp only at hn hstep hwl hll
      obtain ⟨⟨b0, b1, b2, b3⟩, b4, b5⟩ := d'
      clear hd hr1
      go_wp2_with fail
      refine hstep.mono ?_
      rintro e w2 ⟨vw2, vl2, rfl, ho2, t2, ft2⟩
      simp only [DoneD.val]
      clear hstep
      have t02 : Touch w w2 [] := t.trans t2 (fun x hx => .inr (ho.foot_lt x hx).1)
      have c0 := cell_alloc ((t02.cell (p := ⟨g, off + k * 6, none⟩) hg (by simp)).trans M0)
      have c1 := cell_alloc ((t02.cell (p := ⟨g, off + k * 6 + 1, none⟩) hg (by simp)).trans M1)
      have c2 := cell_alloc ((t02.cell (p := ⟨g, off + k * 6 + 2, none⟩) hg (by simp)).trans M2)
      have c3 := cell_alloc ((t02.cell (p := ⟨g, off + k * 6 + 3, none⟩) hg (by simp)).trans M3)
      have c4 := cell_alloc ((t02.cell (p := ⟨g, off + k * 6 + 4, none⟩) hg (by simp)).trans M4)
      have c5 := cell_alloc ((t02.cell (p := ⟨g, off + k * 6 + 5, none⟩) hg (by simp)).trans M5)
      have HN2 : Hid _ := hn
      have HO2 : Hid _ := ho2
      have HT2 : Hid _ := t02
      clear hn t02 t2 ft2 ho ho2 m0 m1 m2 m3 M0 M1 M2 M3 M4 M5 hr hp t
      by_cases ge : e' = 0
      · subst ge
        by_cases hsm : (⟨⟨b0, b1, b2, b3⟩, b4, b5⟩ : DoneD).same ⟨⟨a0, a1, a2, a3⟩, a4, a5⟩ = true
        · have := (DoneD.same_iff _ _).1 hsm
          simp only [DoneD.mk.injEq, OpD.mk.injEq] at this
          obtain ⟨⟨rfl, rfl, rfl, rfl⟩, rfl, rfl⟩ := this
          have HS : Hid _ := hsm
          clear hsm
          go_wp2_with fail
          go_quiet (fail)
          go_wp2
          go_roundw
          case rel => exact ⟨k + 1, ws', lg', vw2, vl2, by go_num, by omega, by rw [HN2.out]; simp [HS.out], HO2.out.keep (((Touch.refl w2 []).alloc _).drewN _) (by simp), by omega, by omega, (HT2.out.alloc _).drewN _⟩
          case measure => simp [intOf]; omega
        · have HF : Hid (playLog (List.replicate m 0) [] l = none) := play_fails (k := k) (by rw [HN2.out]; simp [hsm])
          have hsf := same_false (by simpa using hsm)
          clear hsm HN2 HO2
          rcases hsf with q | ⟨rfl, q⟩ | ⟨rfl, rfl, q⟩ | ⟨rfl, rfl, rfl, q⟩ | ⟨rfl, rfl, rfl, rfl, q⟩ | ⟨rfl, rfl, rfl, rfl, rfl, q⟩
          all_goals
            have q' := ne_of_beq_false q
            go_wp2_with fail
            go_quiet (fail)
            go_wp2
            go_ret2
            exact .inr ⟨HF.out, rfl, (HT2.out.alloc _).drewN _⟩
      · have ge' : (e' == 0) = false := by simpa using ge
        have ge2 : (e' != 0) = true := by simpa using ge
        have HF : Hid (playLog (List.replicate m 0) [] l = none) := play_fails (k := k) (by rw [HN2.out]; simp [ge'])
        clear HN2 HO2
        go_wp2_with fail
        go_quiet (fail)
        go_wp2
        go_ret2
        exact .inr ⟨HF.out, rfl, (HT2.out.alloc _).drewN _⟩
    · have hk' : k = N := by omega
      subst hk'
      rw [List.take_of_length_le (by rw [← HN.out]; omega)] at hp
      have HP : Hid _ := hp
      have HO : Hid _ := ho
      obtain ⟨s0, _⟩ := cells_two ho.st
      clear hp ho
      go_wp2
      go_ret2
      refine .inl ⟨ws, lg, _, HP.out, rfl, ?_, hws, t⟩
      have := HO.out.own
      rwa [hws] at this

end Go.Proofs.Ytcoacfdbcinapaa
