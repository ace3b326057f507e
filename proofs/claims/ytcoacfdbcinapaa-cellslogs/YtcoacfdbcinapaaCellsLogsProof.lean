/-
  CellsLogs is proved: for every number of cells (taken to 1 to 5) and every ops (the first 60 of them are played) the log of the cells is right, played again it leaves the same words, and it is as long as Steps says; the arguments read behind the call as before. No condition.
-/
import Derived.Test.YtcoacfdbcinapaaCellsPlaysProof
namespace Go.Proofs.Ytcoacfdbcinapaa
set_option linter.unusedVariables false
set_option linter.unusedSimpArgs false
open Go.ChangeShapes Go.WideShapes Go.ChangeAt Go.RowKit Go.Joins Go.Deep

theorem runOps_told {m : Nat} (ws : List Int) (lg : List DoneD) (l : List OpD) (h : Told m ws lg) : Told m (runOps ws lg l).1 (runOps ws lg l).2 := by
  induction l generalizing ws lg with
  | nil => exact h
  | cons o l ih => exact ih _ _ (h.step o)

theorem runOps_wf (ws : List Int) (lg : List DoneD) (l : List OpD) (h : ∀ d ∈ lg, d.op.Wf) (hl : ∀ o ∈ l, o.Wf) : ∀ d ∈ (runOps ws lg l).2, d.op.Wf := by
  induction l generalizing ws lg with
  | nil => exact h
  | cons o l ih => exact ih _ _ (doStep_log_wf ws lg o h (hl o (by simp))) (fun o' ho' => hl o' (by simp [ho']))

set_option maxRecDepth 100000 in
set_option maxHeartbeats 1600000 in
theorem logs_any (n : Int) (h0 : 0 ≤ n) (h1 : n ≤ 255) (ao : Option Addr) (len cap : Nat) (l : List OpD) (hwf : ∀ o ∈ l, o.Wf) (w : World) (hr : OpRow w (.slice ao len cap) l) (hl : l.length ≤ maxLen) :
    Calls Try.prog 5 #[.int .u8 n, .slice ao len cap] w fun e w' => e = .returned (.bool true) ∧ Below w.heap.size w w' := by
  have hp := play_any n h0 h1 _ l hwf w hr hl
  obtain ⟨m, hm⟩ : ∃ m : Nat, (m : Int) = n % 5 + 1 := ⟨(n % 5 + 1).toNat, by omega⟩
  have hmt : (n % 5 + 1).toNat = m := by omega
  rw [hmt] at hp
  have hb := runOps_bounds (List.replicate m 0) [] (l.take 60)
  have ht := runOps_told (List.replicate m 0) [] (l.take 60) (Told.start m)
  have hlw := runOps_wf (List.replicate m 0) [] (l.take 60) (by simp) (fun o ho => hwf o (List.mem_of_mem_take ho))
  simp only [List.length_replicate, List.length_nil, List.length_take] at hb
  unfold PlayPost at hp
  generalize hS : runOps (List.replicate m 0) [] (l.take 60) = S at *
  obtain ⟨ws, lg⟩ := S
  simp only at hp hb ht hlw
  have hm1 : 0 < m := by omega
  have hm2 : m ≤ 32 := by omega
  have hlg : lg.length ≤ 900 := by omega
  have hws : ws.length = m := hb.1
  have HM : Hid ((m : Int) = n % 5 + 1) := hm
  have HT : Hid _ := ht
  have HW : Hid _ := hlw
  clear hr hl hwf hb ht hlw hS hm hmt
  go_enter Try.func5, Try.ntmps5
  go_wp2_with fail
  refine hp.mono ?_
  rintro e w1 ⟨bc, vwc, vlc, br, vwr, vlr, rfl, hB, t1⟩
  clear hp
  go_wp2_with fail
  refine (live_any _).mono ?_
  rintro e w2 ⟨rfl, b2⟩
  have hc2 := (hB.touch (Touch.of_below b2 [])).c
  have t02 := t1.trans (Touch.of_below b2 []) (by simp)
  clear hB t1 b2
  go_wp2_with fail
  refine (log_any hc2 (by omega)).mono ?_
  rintro e w3 ⟨rfl, o3, t3⟩
  have hc3 := hc2.keep t3 (by simp)
  have t03 := t02.trans t3 (by simp)
  clear hc2 t02
  have hrep := replay_ok m hm1 hm2 _ lg hlg HW.out w3 (DoneRow.of_owns o3)
  rw [HM.out] at hrep
  clear o3 t3
  go_wp2_with fail
  refine hrep.mono ?_
  rintro e w4 hpost
  clear hrep
  have hpost' : ∃ v, e = .returned (.tuple #[v, .int .i64 0]) ∧ w4.ownsRow w3.heap.size 43 1 v m (ws.map (Value.int .u64)) ∧ Touch w3 w4 [] := by
    have hT : playLog (List.replicate m 0) [] lg = some (ws, lg) := HT.out
    rcases hpost with ⟨ws', lg', v, hp', he, ho', _, tt⟩ | ⟨hp', _⟩
    · rw [hT] at hp'
      simp only [Option.some.injEq, Prod.mk.injEq] at hp'
      obtain ⟨rfl, rfl⟩ := hp'
      exact ⟨v, he, ho', tt⟩
    · rw [hT] at hp'; cases hp'
  obtain ⟨v, rfl, o4, t4⟩ := hpost'
  clear hpost
  have hc4 := hc3.keep t4 (by simp)
  have t04 := t03.trans t4 (by simp)
  clear hc3 t03 t4
  obtain ⟨ao4, cap4, hv4, _⟩ := owns_form o4
  subst hv4
  go_wp2_with fail
  refine (words_any hc4 (by omega)).mono ?_
  rintro e w5 ⟨rfl, o5, t5⟩
  rw [hws] at o5
  have hsw := sameWords_eq _ _ m _ _ ws w5 (by omega) (ownsRow_touch o4 t5 (by simp)) o5
  have hc5 := hc4.keep t5 (by simp)
  have t05 := t04.trans t5 (by simp)
  clear hc4 t04 o4 o5 t5
  rw [hws]
  go_wp2_with fail
  refine hsw.mono ?_
  rintro e w6 ⟨rfl, t6⟩
  have hc6 := hc5.keep t6 (by simp)
  have t06 := t05.trans t6 (by simp)
  clear hsw hc5 t05 t6
  go_wp2_with fail
  refine (log_any hc6 (by omega)).mono ?_
  rintro e w7 ⟨rfl, o7, t7⟩
  have hri := right_ok m hm1 hm2 _ lg hlg HW.out w7 (DoneRow.of_owns o7)
  have hT : playLog (List.replicate m 0) [] lg = some (ws, lg) := HT.out
  rw [HM.out, hT] at hri
  have hc7 := hc6.keep t7 (by simp)
  have t07 := t06.trans t7 (by simp)
  clear hc6 t06 o7 t7 hT
  go_wp2_with fail
  refine hri.mono ?_
  rintro e w8 ⟨rfl, t8⟩
  have hc8 := hc7.keep t8 (by simp)
  have t08 := t07.trans t8 (by simp)
  clear hri hc7 t07 t8
  simp only [Option.isSome_some]
  go_wp2_with fail
  refine (log_any hc8 (by omega)).mono ?_
  rintro e w9 ⟨rfl, o9, t9⟩
  have hc9 := hc8.keep t9 (by simp)
  have t09 := t08.trans t9 (by simp)
  clear hc8 t08 t9 o9
  obtain ⟨ac, cc, hvc⟩ := hc9.logForm
  obtain ⟨_, sc, _⟩ := cells_two hc9.st
  rw [hvc] at sc
  clear hc9 hvc
  go_wp2_with fail
  refine (steps_any bc _ cc ac _ sc).mono ?_
  rintro e w10 ⟨rfl, rfl⟩
  go_wp2
  go_ret
  exact ⟨rfl, t09.below (Nat.le_refl _) (by simp)⟩

set_option maxRecDepth 100000 in
theorem cellsLogs_lifted (os : Os) (started : os.Started) (H : Type) (enc : TypeId × Value → H) :
    ReturnsInHanded {} Try.checked os 5 .any (Rows.cellsLogsSpec.pre6 enc Try.prog Try.f5 Rows.cellsLogsRow.domain false) (Rows.cellsLogsSpec.post enc Try.prog Try.f5 false true false false) := by
  refine returnsInHanded_of_change (C := Try.checked) Try.own started (by kernel_rfl) Try.func5
    (ChangeSpec.witness6 (enc := enc) (C := Try.checked) false ⟨#[], #[.int .u8 0, .slice none 0 0], []⟩ 8 (by kernel_rfl) (by kernel_rfl) (by kernel_rfl) (by kernel_rfl)) ?_
  intro W base args ds gs before hval0 hW hcnd _
  have hval : ∀ (j : Nat) t v, Try.f5.params[j]? = some t → args[j]? = some v → Value.okWide Try.prog W .any base t v := hval0
  have hW' := hW
  obtain ⟨p, q, hA0, hV, rfl, hfz, hnd⟩ := hW
  have hA : DataW.TrodAll enc Try.prog W 0 (fun _ => true) true Try.f5.params.toList args.toList ds p := hA0
  rw [Try.params5] at hA hval
  obtain ⟨v0, vs0, d0, ds0, p0, q0, hargs, rfl, rfl, h0, r0⟩ := trodAll_cons hA
  obtain ⟨v1, vs1, d1, ds1, p1, q1, rfl, rfl, rfl, h1, r1⟩ := trodAll_cons r0
  obtain ⟨rfl, rfl, rfl⟩ := trodAll_nil r1
  obtain rfl : args = #[v0, v1] := by cases args; simp_all
  obtain ⟨rfl, rfl⟩ := trodVars_none hV
  have lt0 : ∀ x ∈ p0, x.block < W.heap.size := by obtain ⟨m, hm⟩ := h0; exact DataW.trod_lt m _ _ _ hm
  have lt1 : ∀ x ∈ p1, x.block < W.heap.size := by obtain ⟨m, hm⟩ := h1; exact DataW.trod_lt m _ _ _ hm
  obtain ⟨n, e1, _, _, wn⟩ := open_int Try.underlying5 (hval 0 5 v0 rfl rfl) h0
  subst e1
  obtain ⟨ao, len, cap, e2⟩ := okWide_slice Try.underlying22 (hval 1 22 v1 rfl rfl)
  subst e2
  obtain ⟨l, hr, hwf, hl⟩ := ops_of_trod h1
  have hn := wf_u8 wn
  refine (logs_any n hn.1 hn.2 ao len cap l hwf W hr hl).mono fun e W' ⟨he, bel⟩ => ?_
  subst he
  exact ⟨_, rfl, _, _, _, [], _, [], hW', trodAll_mk1 (shut_bool Try.underlying4 _), (trodAll_cons_mk (Below.trod Try.laidOut (by kernel_rfl) (of_decide_eq_true (by kernel_rfl)) h0 bel lt0) (trodAll_cons_mk (Below.trod Try.laidOut (by kernel_rfl) (of_decide_eq_true (by kernel_rfl)) h1 bel lt1) trodAll_mk0)), rfl, bel.frame _, fun h => by cases h⟩

theorem cellsLogs_holds : Rows.CellsLogsSaid :=
  OpenClaim.holds_of_wide 5 Try.f5 rfl rfl rfl rfl rfl rfl rfl ⟨rfl, rfl, rfl, rfl, rfl⟩ rfl rfl rfl rfl rfl (by kernel_rfl) Try.func5 (by kernel_rfl)
    (of_decide_eq_true (by kernel_rfl)) (by unfold Func.isWrapper; first | (rw [if_pos (by decide +kernel)]; kernel_rfl) | (rw [if_neg (by decide +kernel)]; exact ⟨rfl, rfl⟩))
    (fun os started H enc _ => cellsLogs_lifted os started H enc)

end Go.Proofs.Ytcoacfdbcinapaa
