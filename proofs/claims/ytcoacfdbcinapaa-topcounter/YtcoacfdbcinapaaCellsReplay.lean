/-
  cells.Replay AND cells.Right BY THEIR CONTRACTS.
-/
import Derived.Test.YtcoacfdbcinapaaCellsPlain
namespace Go.Proofs.Ytcoacfdbcinapaa
set_option linter.unusedVariables false
set_option linter.unusedSimpArgs false
open Go.RowKit

/-- What Replay leaves. -/
def ReplayPost (w : World) (m : Nat) (l : List DoneD) (e : Ending) (w' : World) : Prop :=
  (∃ ws lg v, playLog (List.replicate m 0) [] l = some (ws, lg) ∧ e = .returned (.tuple #[v, .int .i64 0]) ∧ w'.ownsRow w.heap.size 43 1 v m (ws.map (Value.int .u64)) ∧ ws.length = m ∧ Touch w w' []) ∨
  (playLog (List.replicate m 0) [] l = none ∧ e = .returned (.tuple #[.slice none 0 0, .int .i64 3]) ∧ Touch w w' [])

/-- One entry more. -/
theorem play_next {m : Nat} {l : List DoneD} {k : Nat} (hk : k < l.length) {ws : List Int} {lg : List DoneD} (h : playLog (List.replicate m 0) [] (l.take k) = some (ws, lg)) :
    playLog (List.replicate m 0) [] (l.take (k + 1)) = if (doStep ws lg l[k].op).2.1 == 0 && (doStep ws lg l[k].op).1.same l[k] then some ((doStep ws lg l[k].op).2.2.1, (doStep ws lg l[k].op).2.2.2) else none := by
  rw [List.take_succ_eq_append_getElem hk, playLog_snoc, h]
  simp only [Option.bind_some, playLog]

set_option maxRecDepth 100000 in
set_option maxHeartbeats 3200000 in
theorem replay_ok (m : Nat) (h1 : 0 < m) (h2 : m ≤ 32) (v : Value) (l : List DoneD) (hl : l.length ≤ 900) (hwf : ∀ d ∈ l, d.op.Wf) (w : World) (hr : DoneRow w v l) :
    Calls Try.prog 12 #[.int .i64 m, v] w (ReplayPost w m l) := by
  have hnew := new_ok w.heap.size w m h1 h2 (Nat.le_refl _)
  obtain ⟨ao, cap, rfl, hrow⟩ := hr
  have hr : DoneRow w (.slice ao l.length cap) l := ⟨ao, cap, rfl, hrow⟩
  clear hrow
  obtain ⟨N, hN⟩ : ∃ N, N = l.length := ⟨_, rfl⟩
  rw [← hN] at hl
  go_enter Try.func12, Try.ntmps12
  rw [← hN]
  have HN : Hid _ := hN
  clear hN
  go_wp2_with fail
  refine hnew.mono ?_
  rintro e w1 ⟨b, vw0, rfl, ho0, t0, ft0⟩
  clear hnew
  go_wp2_with fail
  go_loopw [17] (fun i wr => ∃ (k : Nat) (ws : List Int) (lg : List DoneD) (vw vl : Value), i = .int .i64 k ∧ k ≤ N ∧ playLog (List.replicate m 0) [] (l.take k) = some (ws, lg) ∧ CObj 69 w.heap.size wr b vw vl ws lg ∧ ws.length = m ∧ lg.length ≤ k ∧ Touch w wr []) (fun i _ => N - (intOf i).toNat)
  case atStart => exact ⟨0, _, _, _, _, rfl, Nat.zero_le _, rfl, ho0, by simp, by simp, t0⟩
  case round =>
    obtain ⟨k, ws, lg, vw, vl, rfl, hk, hp, ho, hws, hlg, t⟩ := hrel
    by_cases hlt : k < N
    · have hlt' : (k : Int) < N := by omega
      have hkl : k < l.length := by rw [← HN.out]; exact hlt
      have hr' : DoneRow wr (.slice ao l.length cap) l := hr.keep t (by simp)
      obtain ⟨g, off, rfl, hg, m0, m1, m2, m3, m4, m5⟩ := hr'.six k hkl
      have hn := play_next hkl hp
      have hdw := hwf l[k] (List.getElem_mem hkl)
      obtain ⟨d, hd⟩ : ∃ d, d = l[k] := ⟨_, rfl⟩
      rw [← hd] at m0 m1 m2 m3 m4 m5 hn hdw
      obtain ⟨⟨a0, a1, a2, a3⟩, a4, a5⟩ := d
      simp only at m0 m1 m2 m3 m4 m5
      have hstep := fun ob => do_any (ho.keep ((Touch.refl wr []).alloc ob) (by simp)) (by have := t.size; simp; omega) ⟨a0, a1, a2, a3⟩ hdw (by omega) (by omega)
      obtain ⟨⟨d', e', ws', lg'⟩, hr1⟩ : ∃ r, r = doStep ws lg ⟨a0, a1, a2, a3⟩ := ⟨_, rfl⟩
      have hwl := doStep_length ws lg ⟨a0, a1, a2, a3⟩
      have hll := doStep_log_length ws lg ⟨a0, a1, a2, a3⟩
      rw [← hr1] at hn hstep hwl hll
      simp only at hn hstep hwl hll
      obtain ⟨⟨b0, b1, b2, b3⟩, b4, b5⟩ := d'
      clear hd hr1 hr'
      go_wp2_with fail
      refine (hstep _).mono ?_
      rintro e w2 ⟨vw2, vl2, rfl, ho2, t2, ft2⟩
      simp only [DoneD.val]
      clear hstep
      have hs2 := t2.size
      simp only [World.size_alloc] at hs2
      have D8 := (t2.block wr.heap.size (by simp) (fun hk => by have := (ho.foot_lt _ hk).2; omega)).trans (heap_alloc_new wr _)
      obtain ⟨⟨c0, c1, c2, c3, c4, c5⟩, _⟩ := cells_done D8
      have hl8 : wr.heap.size < w2.heap.size := by omega
      have k0 := cell_alloc c0
      have k1 := cell_alloc c1
      have k2 := cell_alloc c2
      have k3 := cell_alloc c3
      have k4 := cell_alloc c4
      have k5 := cell_alloc c5
      have t02 : Touch w w2 [] := (t.alloc _).trans t2 (fun x hx => .inr (ho.foot_lt x hx).1)
      have HN2 : Hid _ := hn
      have HO2 : Hid _ := ho2
      have HT2 : Hid _ := t02
      clear D8 c0 c1 c2 c3 c4 c5 hn t02 t2 ft2 ho ho2 m0 m1 m2 m3 m4 m5 hr hp t
      by_cases ge : e' = 0
      · subst ge
        by_cases hsm : (⟨⟨b0, b1, b2, b3⟩, b4, b5⟩ : DoneD).same ⟨⟨a0, a1, a2, a3⟩, a4, a5⟩ = true
        · have := (DoneD.same_iff _ _).1 hsm
          simp only [DoneD.mk.injEq, OpD.mk.injEq] at this
          obtain ⟨⟨rfl, rfl, rfl, rfl⟩, rfl, rfl⟩ := this
          have HS : Hid _ := hsm
          clear hsm
          go_wp2
          go_roundw
          case rel => exact ⟨k + 1, ws', lg', vw2, vl2, by go_num, by omega, by rw [HN2.out]; simp [HS.out], HO2.out.keep ((Touch.refl w2 []).alloc _) (by simp), by omega, by omega, HT2.out.alloc _⟩
          case measure => simp [intOf]; omega
        · have hsf : (b0 == a0 && (b1 == a1 && (b2 == a2 && (b3 == a3 && (b4 == a4 && b5 == a5))))) = false := by simpa only [DoneD.same, Bool.not_eq_true] using hsm
          have HF : Hid (playLog (List.replicate m 0) [] l = none) := play_fails (k := k) (by rw [HN2.out]; simp [hsm])
          clear hsm HN2 HO2
          go_wp2
          all_goals first
            | (go_ret2; exact .inr ⟨HF.out, rfl, HT2.out.alloc _⟩)
            | (exfalso; simp_all)
      · have ge' : (e' == 0) = false := by simpa using ge
        have HF : Hid (playLog (List.replicate m 0) [] l = none) := play_fails (k := k) (by rw [HN2.out]; simp [ge'])
        clear HN2 HO2
        go_wp2
        go_ret2
        exact .inr ⟨HF.out, rfl, HT2.out.alloc _⟩
    · have hk' : k = N := by omega
      subst hk'
      have hw := words_any ho (by omega)
      rw [List.take_of_length_le (by rw [← HN.out]; omega)] at hp
      have HP : Hid _ := hp
      clear hp
      go_wp2_with fail
      refine hw.mono ?_
      rintro e w2 ⟨rfl, ho2, t2⟩
      clear hw
      go_wp2
      go_ret2
      refine .inl ⟨ws, lg, _, HP.out, rfl, ?_, hws, t.trans t2 (by simp)⟩
      have := ownsRow_base ho2 t.size
      rwa [hws] at this

end Go.Proofs.Ytcoacfdbcinapaa
